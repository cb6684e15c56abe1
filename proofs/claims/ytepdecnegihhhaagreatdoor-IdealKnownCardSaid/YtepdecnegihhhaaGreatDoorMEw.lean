/- What choice answers. What choice answers: walked. What each rule answers. What Parse answers: of every text. -/
import Derived.Test.YtepdecnegihhhaaGreatDoorMEz
import Derived.Test.YtepdecnegihhhaaGreatDoorMEt
set_option linter.unusedSimpArgs false
set_option linter.unusedVariables false
namespace Go.Proofs.YtepdecnegihhhaaGreatDoor.exp
section
open Go.RowKit nam lex
def chP (f : List Tok → Out) : List (List Nat) → List Ex → List Tok → Out
 | [], xs, l => .ok (.mk 18 0 xs) l
 | wd :: ws, xs, l => if txt l = wd then (match f l.tail with | .bad l' => .bad l' | .ok x l' => chP f ws (xs ++ [x]) l') else .bad l
theorem chP_if {f : List Tok → Out} {l : List Tok} (h : txt l = wIf) : chP f [wIf, wThen, wElse] [] l = ifP f l := by
 unfold chP ifP
 rw [if_pos h]
 cases f l.tail with
 | bad l' => rfl
 | ok a l1 =>
  simp only [List.nil_append]
  unfold chP
  by_cases h1 : txt l1 = wThen
  · rw [if_pos h1, if_pos h1]
    cases f l1.tail with
    | bad l' => rfl
    | ok b l2 =>
     simp only []
     unfold chP
     by_cases h2 : txt l2 = wElse
     · rw [if_pos h2, if_pos h2]
       cases f l2.tail with
       | bad l' => rfl
       | ok c l3 => simp [chP]
     · rw [if_neg h2, if_neg h2]
  · rw [if_neg h1, if_neg h1]
def wds : List (List Nat) := [wIf, wThen, wElse]
def wdN (k : Nat) : List Nat := if k = 0 then wIf else if k = 1 then wThen else wElse
theorem wds_drop {k : Nat} (hk : k < 3) : wds.drop k = wdN k :: wds.drop (k + 1) := by
 rcases (show k = 0 ∨ k = 1 ∨ k = 2 by omega) with rfl | rfl | rfl <;> rfl
def wdB (k : Nat) : ByteArray := if k = 0 then ⟨#[105, 102]⟩ else if k = 1 then ⟨#[116, 104, 101, 110]⟩ else ⟨#[101, 108, 115, 101]⟩
theorem wds_ok {k : Nat} (hk : k < 3) : wdN k ≠ [] ∧ (∀ r ∈ wdN k, okR r) ∧ textOf (wdN k) = wdB k := by
 rcases (show k = 0 ∨ k = 1 ∨ k = 2 by omega) with rfl | rfl | rfl
 · exact ⟨by simp [wdN, wIf], by simp [wdN, wIf, okR], lit2 105 102 (by decide) (by decide)⟩
 · exact ⟨by simp [wdN, wThen], by simp [wdN, wThen, okR], lit4 116 104 101 110 (by decide) (by decide) (by decide) (by decide)⟩
 · exact ⟨by simp [wdN, wElse], by simp [wdN, wElse, okR], lit4 101 108 115 101 (by decide) (by decide) (by decide) (by decide)⟩
theorem chP_no {f : List Tok → Out} {k : Nat} (hk : k < 3) {xs : List Ex} {l : List Tok} (h : txt l ≠ wdN k) : chP f (wds.drop k) xs l = .bad l := by
 rw [wds_drop hk, chP, if_neg h]
theorem chP_yes {f : List Tok → Out} {k : Nat} (hk : k < 3) {xs : List Ex} {l : List Tok} (h : txt l = wdN k) : chP f (wds.drop k) xs l = (match f l.tail with | .bad l' => .bad l' | .ok x l' => chP f (wds.drop (k + 1)) (xs ++ [x]) l') := by
 rw [wds_drop hk, chP, if_pos h]
def Fc (w : World) (N0 N1 N2 b : Nat) : Prop := w.heap.size ≤ b ∧ b ≠ N0 ∧ b ≠ N1 ∧ b ≠ N2
structure Ch (S : Src) (f : List Tok → Out) (O : Out) (w : World) (L N0 N1 N2 k : Nat) (wr : World) (i : Nat) (xs : List Ex) : Prop where
 only : Only (Mine S) w wr
 box0 : Bx wr N0 0 0 none 0 0
 box1 : Bx wr N1 18 0 (some ⟨N2, 0, none⟩) 3 3
 row : ∃ (cur : Array Value) (V : Nat → Value), wr.heap[N2]? = some (.cells cur 46 (0, 0)) ∧ cur.size = 9 ∧ ∀ j (h : j < xs.length), cur[j * 3]? = some (.int .u8 (xs[j].op : Int)) ∧ cur[j * 3 + 1]? = some (.int .i64 xs[j].n) ∧ cur[j * 3 + 2]? = some (V j) ∧ Lies wr (Fc w N0 N1 N2) (V j) xs[j].args
 rs : Rs S wr i
 len : xs.length = k
 rest : chP f (wds.drop k) xs (S.at i) = O
 few : (S.at i).length ≤ L
 ord : w.heap.size = N0 ∧ N2 = N0 + 1 ∧ N1 = N0 + 2
theorem Ch.lt {S : Src} {f : List Tok → Out} {O : Out} {w : World} {L N0 N1 N2 k : Nat} {wr : World} {i : Nat} {xs : List Ex} (h : Ch S f O w L N0 N1 N2 k wr i xs) : N1 < wr.heap.size := h.box1.lt
theorem Ch.only' {S : Src} {f : List Tok → Out} {O : Out} {w : World} {L N0 N1 N2 k : Nat} {wr w1 : World} {i j : Nat} {xs : List Ex} (h : Ch S f O w L N0 N1 N2 k wr i xs) (ho : Only (Mine S) wr w1) :
  Only (Mine S) w w1 ∧ Bx w1 N0 0 0 none 0 0 ∧ Bx w1 N1 18 0 (some ⟨N2, 0, none⟩) 3 3 ∧ ∃ (cur : Array Value) (V : Nat → Value), w1.heap[N2]? = some (.cells cur 46 (0, 0)) ∧ cur.size = 9 ∧ ∀ j (h : j < xs.length), cur[j * 3]? = some (.int .u8 (xs[j].op : Int)) ∧ cur[j * 3 + 1]? = some (.int .i64 xs[j].n) ∧ cur[j * 3 + 2]? = some (V j) ∧ Lies w1 (fun b => Fc w N0 N1 N2 b ∧ b < wr.heap.size) (V j) xs[j].args := by
 obtain ⟨cur, V, h1, h2, h3⟩ := h.row
 have hrb : ∀ (k : Nat) (cc : Array Value), wr.heap[k]? = some (.cells cc 46 (0, 0)) → ¬ Mine S k := fun k cc hcc e => by
  have := h.rs.box; rw [show k = S.rb from e, this] at hcc; simp at hcc
 refine ⟨h.only.then ho, h.box0.only ho h.rs, h.box1.only ho h.rs, cur, V, (ho.block N2 (Array.getElem?_eq_some_iff.1 h1).1 (hrb _ _ h1)).trans h1, h2, fun j hj => ?_⟩
 obtain ⟨a1, a2, a3, a4⟩ := h3 j hj
 exact ⟨a1, a2, a3, a4.here.frame fun k cc hk hcc => ho.block k hk.2 (hrb _ _ hcc)⟩
def set3o (w : World) (b o : Nat) (A N : Int) (p : Option Addr) (n c : Nat) : World := ((w.setCell ⟨b, o, none⟩ (.int .u8 A)).setCell ⟨b, o + 1, none⟩ (.int .i64 N)).setCell ⟨b, o + 2, none⟩ (.slice p n c)
theorem set3o_other {w : World} {b o k n c : Nat} {A N : Int} {p : Option Addr} (hk : k ≠ b) : (set3o w b o A N p n c).heap[k]? = w.heap[k]? := by
 unfold set3o
 rw [Below.heap_setCell _ _ _ _ hk, Below.heap_setCell _ _ _ _ hk, Below.heap_setCell _ _ _ _ hk]
theorem set3o_same {w : World} {b o n c : Nat} {A N : Int} {p : Option Addr} {cur : Array Value} (h : w.heap[b]? = some (.cells cur 46 (0, 0))) :
  (set3o w b o A N p n c).heap[b]? = some (.cells (((cur.setIfInBounds o (.int .u8 A)).setIfInBounds (o + 1) (.int .i64 N)).setIfInBounds (o + 2) (.slice p n c)) 46 (0, 0)) := by
 have h1 := heap_setCell_same w b o _ 46 (.int .u8 A) h
 have h2 := heap_setCell_same _ b (o + 1) _ 46 (.int .i64 N) h1
 exact heap_setCell_same _ b (o + 2) _ 46 (.slice p n c) h2
theorem set3o_only {F : Nat → Prop} {w w' : World} {b o n c : Nat} {A N : Int} {p : Option Addr} (h : Only F w w') (hb : w.heap.size ≤ b) : Only F w (set3o w' b o A N p n c) := by
 refine ⟨h.os, h.tape, h.output, ?_, fun k hk hn => ?_⟩
 · have := h.size; simp [set3o]; exact this
 · rw [set3o_other (by omega)]; exact h.block k hk hn
def ChEnd (S : Src) (f : List Tok → Out) (O : Out) (w : World) (L N0 N1 N2 k : Nat) (b : Bool) (wx : World) : Prop :=
 (b = true → ∃ i xs, Ch S f O w L N0 N1 N2 (k + 1) wx i xs) ∧ (b = false → ∃ i, Only (Mine S) w wx ∧ Bx wx N0 0 0 none 0 0 ∧ Rs S wx i ∧ O = .bad (S.at i))
theorem Ch.next {S : Src} {f : List Tok → Out} {O : Out} {w : World} {L N0 N1 N2 k : Nat} {wr w1 w6 : World} {i : Nat} {xs : List Ex} (h : Ch S f O w L N0 N1 N2 k wr i xs) (hk : k < 3) (ht : txt (S.at i) = wdN k) (ho1 : Only (Mine S) wr w1) (hr1 : Rs S w1 (i + 1))
  (hfl : ∀ l, Less l.length (f l)) {A M : Int} {p : Option Addr} {n c : Nat} {b : Bool} {i6 : Nat} (hr6 : Rs S w6 i6) (ho6 : Only (Mine S) w1 w6) (h6 : Tells S (From w1) (f (S.at (i + 1))) w6 A M p n c b i6) :
  w6.cell? ⟨N1, 2, none⟩ = some (.slice (some ⟨N2, 0, none⟩) 3 3) ∧ (∃ z0 z1 z2, w6.cell? ⟨N2, k * 3, none⟩ = some z0 ∧ w6.cell? ⟨N2, k * 3 + 1, none⟩ = some z1 ∧ w6.cell? ⟨N2, k * 3 + 2, none⟩ = some z2) ∧ (∀ j, w6.frozen? ⟨N2, j, none⟩ = false) ∧
   ChEnd S f O w L N0 N1 N2 k b (set3o w6 N2 (k * 3) A M p n c) := by
 obtain ⟨k1, k2, k3, cur, V, k4, k5, k6⟩ := h.only' (j := 0) (ho1.then ho6)
 obtain ⟨hn0, hn2, hn1⟩ := h.ord
 have hlt := h.lt
 have hs1 := ho1.size
 have hs6 := ho6.size
 refine ⟨k3.cells.2.2.1, ?_, fun j => by simp [World.frozen?, k4], ?_, ?_⟩
 · have e : ∀ j, j < 9 → ∃ z, cur[j]? = some z := fun j hj => ⟨cur[j]'(by omega), by simp [show j < cur.size by omega]⟩
   obtain ⟨z0, e0⟩ := e (k * 3) (by omega)
   obtain ⟨z1, e1⟩ := e (k * 3 + 1) (by omega)
   obtain ⟨z2, e2⟩ := e (k * 3 + 2) (by omega)
   exact ⟨z0, z1, z2, cell_of k4 e0, cell_of k4 e1, cell_of k4 e2⟩
 · intro hb
   cases hfo : f (S.at (i + 1)) with
   | bad l => rw [hfo] at h6; rw [h6.1] at hb; cases hb
   | ok x l =>
    rw [hfo] at h6
    obtain ⟨t0, t1, t2, t3, t4, t5⟩ := h6
    have hless := hfl (S.at (i + 1))
    rw [hfo] at hless
    simp only [Less] at hless
    subst t1; subst t2; subst t3
    have hxl := h.len
    refine ⟨i6, xs ++ [x], set3o_only k1 (by omega), (set3o_other (by omega)).trans k2, (set3o_other (by omega)).trans k3, ⟨_, fun j => if j = k then .slice p x.args.length c else V j, set3o_same k4, by simp [k5], fun j hj => ?_⟩, ?_, by simp [hxl], ?_, ?_, h.ord⟩
    · rw [List.length_append, List.length_singleton] at hj
      by_cases hjk : j < k
      · have hjl : j < xs.length := by omega
        obtain ⟨b1, b2, b3, b4⟩ := k6 j hjl
        have hV : (fun j => if j = k then Value.slice p x.args.length c else V j) j = V j := if_neg (by omega)
        rw [List.getElem_append_left hjl, hV]
        refine ⟨?_, ?_, ?_, (b4.frame fun q cc hq hcc => set3o_other hq.1.2.2.2).mono fun q hq => hq.1⟩
        · rw [Array.getElem?_setIfInBounds_ne (by omega), Array.getElem?_setIfInBounds_ne (by omega), Array.getElem?_setIfInBounds_ne (by omega)]; exact b1
        · rw [Array.getElem?_setIfInBounds_ne (by omega), Array.getElem?_setIfInBounds_ne (by omega), Array.getElem?_setIfInBounds_ne (by omega)]; exact b2
        · rw [Array.getElem?_setIfInBounds_ne (by omega), Array.getElem?_setIfInBounds_ne (by omega), Array.getElem?_setIfInBounds_ne (by omega)]; exact b3
      · obtain rfl : j = k := by omega
        have hx : (xs ++ [x])[j]'(by simp; omega) = x := by rw [List.getElem_append_right (by omega)]; simp
        have hV : (fun q => if q = j then Value.slice p x.args.length c else V q) j = Value.slice p x.args.length c := if_pos rfl
        rw [hx, hV]
        refine ⟨?_, ?_, ?_, (t4.here.frame fun q cc hq hcc => set3o_other (fun e => ?_)).mono fun q hq => ?_⟩
        · rw [Array.getElem?_setIfInBounds_ne (by omega), Array.getElem?_setIfInBounds_ne (by omega), Array.getElem?_setIfInBounds_self_of_lt (by omega)]
        · rw [Array.getElem?_setIfInBounds_ne (by omega), Array.getElem?_setIfInBounds_self_of_lt (by simp; omega)]
        · rw [Array.getElem?_setIfInBounds_self_of_lt (by simp; omega)]
        · have : w1.heap.size ≤ q := hq.1
          omega
        · have : w1.heap.size ≤ q := hq.1
          exact ⟨by omega, by omega, by omega, by omega⟩
    · refine ⟨?_, (set3o_other (fun e => ?_)).trans hr6.box, hr6.le, hr6.few, hr6.ok⟩
      · rcases hr6.row with ⟨h2, h3 | ⟨g, cap, cu, h4, h5, h6, h7⟩⟩
        · exact ⟨h2, .inl h3⟩
        · refine ⟨h2, .inr ⟨g, cap, cu, h4, h5, (set3o_other fun e => ?_).trans h6, h7⟩⟩
          rw [e, k4] at h6
          simp at h6
      · have := hr6.box
        rw [e, k4] at this
        simp at this
    · rw [← h.rest, chP_yes hk ht, at_tail, hfo, t5]
    · rw [t5]
      have := h.few
      have e := at_len S i
      have e1 := at_len S (i + 1)
      omega
 · intro hb
   cases hfo : f (S.at (i + 1)) with
   | ok x l => rw [hfo] at h6; rw [h6.1] at hb; cases hb
   | bad l =>
    rw [hfo] at h6
    refine ⟨i6, set3o_only k1 (by omega), (set3o_other (by omega)).trans k2, ?_, by rw [← h.rest, chP_yes hk ht, at_tail, hfo, h6.2]⟩
    refine ⟨?_, (set3o_other (fun e => ?_)).trans hr6.box, hr6.le, hr6.few, hr6.ok⟩
    · rcases hr6.row with ⟨h2, h3 | ⟨g, cap, cu, h4, h5, h6, h7⟩⟩
      · exact ⟨h2, .inl h3⟩
      · refine ⟨h2, .inr ⟨g, cap, cu, h4, h5, (set3o_other fun e => ?_).trans h6, h7⟩⟩
        rw [e, k4] at h6
        simp at h6
    · have := hr6.box
      rw [e, k4] at this
      simp at this
end
section
open Go.RowKit nam lex
theorem Ch.post {S : Src} {f : List Tok → Out} {O : Out} {w : World} {L N0 N1 N2 : Nat} {wr : World} {i : Nat} {xs : List Ex} (h : Ch S f O w L N0 N1 N2 3 wr i xs) :
  PPost S O w (.returned (.tuple #[.agg #[.int .u8 18, .int .i64 0, .slice (some ⟨N2, 0, none⟩) 3 3], .bool true])) (set3 wr N0 18 0 (some ⟨N2, 0, none⟩) 3 3) := by
 obtain ⟨hn0, hn2, hn1⟩ := h.ord
 refine fin (W := w) (Below.refl _ _) h.only h.box0 (by omega) h.rs (fun _ => ?_) (fun hb => by cases hb)
 refine ⟨.mk 18 0 xs, h.rest.symm, rfl, rfl, h.len.symm, ?_⟩
 obtain ⟨cur, V, a1, a2, a3⟩ := h.row
 exact .row N2 3 3 cur xs V ⟨by omega, by omega⟩ a1 h.len.symm (fun j hj => ⟨(a3 j hj).1, (a3 j hj).2.1, (a3 j hj).2.2.1⟩) fun j hj => (a3 j hj).2.2.2.mono fun q hq => ⟨hq.1, hq.2.1⟩
theorem Ch.bad {S : Src} {f : List Tok → Out} {O : Out} {w wx : World} {L N0 N1 N2 k : Nat} {wr : World} {i : Nat} {xs : List Ex} (h : Ch S f O w L N0 N1 N2 k wr i xs) (hk : k < 3) (hn : txt (S.at i) ≠ wdN k) (hb : Below wr.heap.size wr wx) :
  Bx wx N0 0 0 none 0 0 ∧ PPost S O w (.returned (.tuple #[.agg #[.int .u8 0, .int .i64 0, .slice none 0 0], .bool false])) (set3 wx N0 0 0 none 0 0) := by
 obtain ⟨hn0, hn2, hn1⟩ := h.ord
 exact ⟨h.box0.under hb, fin (W := w) (Below.refl _ _) (h.only.then (.of_below hb)) (h.box0.under hb) (by omega) (h.rs.under hb) (fun hb => by cases hb) (fun _ => by rw [← h.rest, chP_no hk hn])⟩
theorem ChEnd.bad {S : Src} {f : List Tok → Out} {O : Out} {w : World} {L N0 N1 N2 k : Nat} {wx : World} (h : ChEnd S f O w L N0 N1 N2 k false wx) (hn0 : w.heap.size = N0) :
  Bx wx N0 0 0 none 0 0 ∧ PPost S O w (.returned (.tuple #[.agg #[.int .u8 0, .int .i64 0, .slice none 0 0], .bool false])) (set3 wx N0 0 0 none 0 0) := by
 obtain ⟨i, h1, h2, h3, h4⟩ := h.2 rfl
 exact ⟨h2, fin (W := w) (Below.refl _ _) h1 h2 (by omega) h3 (fun hb => by cases hb) (fun _ => h4)⟩
def ChOut (S : Src) (f : List Tok → Out) (O : Out) (w w1 : World) (L N0 N1 N2 k : Nat) : Prop :=
 Calls Tryz.prog 162 #[ptr S.rb] w1 fun e w6 => ∃ (A M : Int) (p : Option Addr) (n c : Nat) (b : Bool), e = .returned (.tuple #[.agg #[.int .u8 A, .int .i64 M, .slice p n c], .bool b]) ∧ w6.cell? ⟨N1, 2, none⟩ = some (.slice (some ⟨N2, 0, none⟩) 3 3) ∧
  (∃ z0 z1 z2, w6.cell? ⟨N2, k * 3, none⟩ = some z0 ∧ w6.cell? ⟨N2, k * 3 + 1, none⟩ = some z1 ∧ w6.cell? ⟨N2, k * 3 + 2, none⟩ = some z2) ∧ w6.frozen? ⟨N2, k * 3, none⟩ = false ∧ w6.frozen? ⟨N2, k * 3 + 1, none⟩ = false ∧ w6.frozen? ⟨N2, k * 3 + 2, none⟩ = false ∧
  Hid (ChEnd S f O w L N0 N1 N2 k b (set3o w6 N2 (k * 3) A M p n c))
theorem ChOut.of {S : Src} {f : List Tok → Out} {O : Out} {w : World} {L N0 N1 N2 k : Nat} {wr w1 : World} {i : Nat} {xs : List Ex} (h : Ch S f O w L N0 N1 N2 k wr i xs) (hk : k < 3) (ht : txt (S.at i) = wdN k) (ho1 : Only (Mine S) wr w1) (hr1 : Rs S w1 (i + 1)) (hfl : ∀ l, Less l.length (f l))
  (hf : ∀ (w' : World) (i' : Nat), Rs S w' i' → (S.at i').length < L → Calls Tryz.prog 162 #[ptr S.rb] w' (PPost S (f (S.at i')) w')) : ChOut S f O w w1 L N0 N1 N2 k := by
 have hlt : (S.at (i + 1)).length < L := by
  have := h.few
  have h2 := at_lt (S := S) (i := i) (by rw [ht]; exact (wds_ok hk).1)
  have e := at_len S i
  have e1 := at_len S (i + 1)
  omega
 refine (hf w1 (i + 1) hr1 hlt).mono ?_
 rintro e w6 ⟨A, M, p, n, c, b, i6, rfl, hr6, ho6, h6⟩
 obtain ⟨a1, a2, a3, a4⟩ := h.next hk ht ho1 hr1 hfl hr6 ho6 h6
 exact ⟨A, M, p, n, c, b, rfl, a1, a2, a3 _, a3 _, a3 _, Lib.hid a4⟩
set_option maxHeartbeats 1600000 in
set_option maxRecDepth 1000000 in
theorem choice_any {S : Src} {f : List Tok → Out} {L i : Nat} {w : World} (hf : ∀ (w' : World) (i' : Nat), Rs S w' i' → (S.at i').length < L → Calls Tryz.prog 162 #[ptr S.rb] w' (PPost S (f (S.at i')) w')) (hfl : ∀ l, Less l.length (f l)) (hs : Rs S w i) (hL : (S.at i).length ≤ L) (ht : txt (S.at i) = wIf) :
  Calls Tryz.prog 233 #[ptr S.rb] w (PPost S (ifP f (S.at i)) w) := by
 have hmk : ∀ w : World, (Instr.makeSlice 44 (.int .i64 3) (.int .i64 3)).run Tryz.prog w = .ok (.slice (some ⟨w.heap.size, 0, none⟩) 3 3) (w.alloc (.cells #[.int .u8 0, .int .i64 0, .slice none 0 0, .int .u8 0, .int .i64 0, .slice none 0 0, .int .u8 0, .int .i64 0, .slice none 0 0] 46)) := fun _ => by kernel_rfl
 obtain ⟨O, hO⟩ : ∃ O, ifP f (S.at i) = O := ⟨_, rfl⟩
 rw [hO]
 obtain ⟨N0, hN0⟩ : ∃ N, w.heap.size = N := ⟨_, rfl⟩
 obtain ⟨W, hW⟩ : ∃ W, ((w.alloc (.cells #[.int .u8 0, .int .i64 0, .slice none 0 0] 46)).alloc (.cells #[.int .u8 0, .int .i64 0, .slice none 0 0, .int .u8 0, .int .i64 0, .slice none 0 0, .int .u8 0, .int .i64 0, .slice none 0 0] 46)).alloc (.cells #[.int .u8 18, .int .i64 0, .slice (some ⟨N0 + 1, 0, none⟩) 3 3] 46) = W := ⟨_, rfl⟩
 have HCH : Hid (Ch S f O w L N0 (N0 + 1 + 1) (N0 + 1) 0 W i []) := Lib.hid (by
  have hb : Below w.heap.size w W := by rw [← hW]; exact (((Below.refl _ _).alloc (Nat.le_refl _) _).alloc (by simp) _).alloc (by simp; omega) _
  refine ⟨.of_below hb, ?_, ?_, ⟨#[.int .u8 0, .int .i64 0, .slice none 0 0, .int .u8 0, .int .i64 0, .slice none 0 0, .int .u8 0, .int .i64 0, .slice none 0 0], fun _ => undef, ?_, rfl, fun j hj => by simp at hj⟩, hs.under hb, rfl, by rw [← hO]; exact chP_if ht, hL, hN0, rfl, rfl⟩
  · rw [← hW]; exact heap_old (heap_old (heap_last hN0.symm))
  · rw [← hW]; exact heap_last (by simp [hN0])
  · rw [← hW]; exact heap_old (heap_last (by simp [hN0])))
 have HF := Lib.hid hf; have HFL := Lib.hid hfl; have HN := Lib.hid hN0
 clear hf hfl hs hL ht hO
 unfold ptr at *
 go_enter Tryz.func233, Tryz.ntmps233
 go_wp2_with fail
 go_loopg [11, 5, 6, 7] 3 (fun g v11 v5 v6 v7 wr => ∃ (k i : Nat) (xs : List Ex), k + g = 3 ∧ v11 = .int .i64 (k : Int) ∧ Ch S f O w L N0 (N0 + 1 + 1) (N0 + 1) k wr i xs)
 case atStart => exact ⟨0, i, [], by omega, rfl, HCH.out⟩
 case round =>
  rename World => wr
  obtain ⟨k, j, xs, hk, rfl, hch⟩ := hrel
  have HR := Lib.hid hch; clear hch
  by_cases hk3 : k < 3
  · have hix : ∀ w : World, (Instr.index 305 (.agg #[.string ⟨#[105, 102]⟩, .string ⟨#[116, 104, 101, 110]⟩, .string ⟨#[101, 108, 115, 101]⟩]) (.int .i64 (k : Int))).run Tryz.prog w = .ok (.string (wdB k)) w := by
     rcases (show k = 0 ∨ k = 1 ∨ k = 2 by omega) with rfl | rfl | rfl <;> exact fun _ => by kernel_rfl
    have hki : (k : Int) < 3 := by omega
    obtain ⟨T, hT⟩ : ∃ T, wdB k = T := ⟨_, rfl⟩
    rw [hT] at hix
    have HW := Lib.hid ((wds_ok hk3).2.2.trans hT)
    clear hT
    by_cases htx : txt (S.at j) = wdN k
    · have HC := Lib.hid (takes_yes HR.out.rs (wds_ok hk3).1 HW.out htx)
      have HTX := Lib.hid htx; clear htx
      unfold ptr at HC
      go_wp2_with fail
      refine HC.out.mono ?_
      rintro e w1 ⟨rfl, hr1, ho1⟩
      have HOUT := Lib.hid (ChOut.of HR.out hk3 HTX.out ho1.drew hr1.drew HFL.out HF.out)
      have s1 : w1.cell? ⟨N0 + 1 + 1, 2, none⟩ = some (.slice (some ⟨N0 + 1, 0, none⟩) 3 3) := (HR.out.only' (j := 0) ho1).2.2.1.cells.2.2.1
      unfold ChOut ptr at HOUT
      clear hr1 ho1
      go_wp2_with fail
      go_upto_region 7 with fail
      go_cut [7] (fun t wx => ∃ b : Bool, t = .bool b ∧ ChEnd S f O w L N0 (N0 + 1 + 1) (N0 + 1) k b wx)
      case first =>
       go_region_with (go_at_call 162; (refine HOUT.out.mono ?_); rintro e w6 ⟨A, M, p, n, c, b, rfl, g1, ⟨z0, z1, z2, g2, g3, g4⟩, g5, g6, g7, hend⟩)
       all_goals (go_wp2_with fail; go_meet; exact ⟨b, rfl, (by first | exact hend.out | exact hend.out.drew)⟩)
      case rest =>
       rename World => w4
       obtain ⟨b, rfl, hend⟩ := hcut
       cases b with
       | true =>
        obtain ⟨i', xs', hn⟩ := hend.1 rfl
        have HNX := Lib.hid hn
        clear hn hend
        go_wp2_with fail
        go_roundg (gk - 1)
        case measure => omega
        case rel => exact ⟨k + 1, i', xs', by omega, by go_num, HNX.out⟩
       | false =>
        obtain ⟨h0, hp⟩ := hend.bad HN.out
        have HP := Lib.hid hp
        obtain ⟨a1, a2, a3, a4, a5, a6⟩ := h0.cells
        clear hend h0 hp
        go_wp2_with fail
        try rw [Exit.noGoto_ret]
        refine bodyPost_ret (v := .tuple #[.agg #[.int .u8 0, .int .i64 0, .slice none 0 0], .bool false]) (by simp [results, Tryz.f233, go_sem, a1, a2, a3]) rfl HP.out
    · have HC := Lib.hid (takes_no HR.out.rs (wds_ok hk3).2.1 HW.out htx)
      have HTX := Lib.hid htx; clear htx
      unfold ptr at HC
      go_wp2_with fail
      refine HC.out.mono ?_
      rintro e w1 ⟨rfl, hr1, hb1⟩
      obtain ⟨h0, hp⟩ := HR.out.bad hk3 HTX.out hb1
      have HP := Lib.hid hp
      obtain ⟨a1, a2, a3, a4, a5, a6⟩ := h0.cells
      clear hr1 hb1 h0 hp
      go_wp2_with fail
      try rw [Exit.noGoto_ret]
      refine bodyPost_ret (v := .tuple #[.agg #[.int .u8 0, .int .i64 0, .slice none 0 0], .bool false]) (by simp [results, Tryz.f233, go_sem, a1, a2, a3]) rfl HP.out
  · obtain rfl : k = 3 := by omega
    have HP := Lib.hid HR.out.post
    obtain ⟨a1, a2, a3, a4, a5, a6⟩ := HR.out.box0.cells
    obtain ⟨b1, b2, b3, _⟩ := HR.out.box1.cells
    go_wp2_with fail
    try rw [Exit.noGoto_ret]
    refine bodyPost_ret (v := .tuple #[.agg #[.int .u8 18, .int .i64 0, .slice (some ⟨N0 + 1, 0, none⟩) 3 3], .bool true]) (by simp [results, Tryz.f233, go_sem, a1, a2, a3]) rfl HP.out
end
section
open Go.RowKit nam lex
def fnum : Nat → Nat
 | 0 => 162
 | 1 => 193
 | 2 => 215
 | 3 => 228
 | 4 => 229
 | 5 => 230
 | _ => 232
theorem rule_any (S : Src) : ∀ (k r : Nat) (i : Nat) (w : World), r ≤ 6 → Rs S w i → need r (S.at i) ≤ k → Calls Tryz.prog (fnum r) #[ptr S.rb] w (PPost S (par k r (S.at i)) w) := by
 intro k
 induction k with
 | zero => intro r i w hr hs hn; unfold need at hn; omega
 | succ k ih =>
  intro r i w hr hs hn
  unfold need at hn
  have hrow : ∀ r, r < 5 → need r (S.at i) ≤ k + 1 → (∀ (w' : World) (i' : Nat), Rs S w' i' → (S.at i').length ≤ (S.at i).length → Calls Tryz.prog (fnum (r + 1)) #[ptr S.rb] w' (PPost S (par k (r + 1) (S.at i')) w')) := fun r hr5 hn w' i' hs' hl => ih (r + 1) i' w' (by omega) hs' (by unfold need at *; omega)
  rcases (show r = 0 ∨ r = 1 ∨ r = 2 ∨ r = 3 ∨ r = 4 ∨ r = 5 ∨ r = 6 by omega) with rfl | rfl | rfl | rfl | rfl | rfl | rfl
  · rw [par_row k 0 _ (by omega)]
    exact row0_any (f := par k 1) (hrow 0 (by omega) hn) (fun l => par_less k 1 l) hs (Nat.le_refl _)
  · rw [par_row k 1 _ (by omega)]
    exact row1_any (f := par k 2) (hrow 1 (by omega) hn) (fun l => par_less k 2 l) hs (Nat.le_refl _)
  · rw [par_row k 2 _ (by omega)]
    exact row2_any (f := par k 3) (hrow 2 (by omega) hn) (fun l => par_less k 3 l) hs (Nat.le_refl _)
  · rw [par_row k 3 _ (by omega)]
    exact row3_any (f := par k 4) (hrow 3 (by omega) hn) (fun l => par_less k 4 l) hs (Nat.le_refl _)
  · rw [par_row k 4 _ (by omega)]
    exact row4_any (f := par k 5) (hrow 4 (by omega) hn) (fun l => par_less k 5 l) hs (Nat.le_refl _)
  · rw [par_unary]
    exact unary_any (f5 := par k 5) (f6 := par k 6) (fun w' i' hs' hl => ih 5 i' w' (by omega) hs' (by unfold need; omega)) (fun w' i' hs' hl => ih 6 i' w' (by omega) hs' (by unfold need; omega)) hs (Nat.le_refl _)
  · rw [par_one]
    have hf : ∀ (w' : World) (i' : Nat), Rs S w' i' → (S.at i').length < (S.at i).length → Calls Tryz.prog 162 #[ptr S.rb] w' (PPost S (par k 0 (S.at i')) w') := fun w' i' hs' hl => ih 0 i' w' (by omega) hs' (by unfold need; omega)
    show Calls Tryz.prog 232 _ _ _
    by_cases h2 : knd (S.at i) = 2
    · exact one_num hs (Nat.le_refl _) h2
    by_cases h3 : txt (S.at i) = [107, 101, 121]
    · exact one_key hs (Nat.le_refl _) h2 h3
    by_cases h4 : txt (S.at i) = [118, 97, 108]
    · exact one_val hs (Nat.le_refl _) h2 h3 h4
    by_cases h5 : txt (S.at i) = [97, 99, 99]
    · exact one_acc hs (Nat.le_refl _) h2 h3 h4 h5
    by_cases h6 : txt (S.at i) = [40]
    · exact one_paren hf hs (Nat.le_refl _) h2 h3 h4 h5 h6
    by_cases h7 : txt (S.at i) = wIf
    · exact one_if (fun w' hs' => choice_any hf (fun l => par_less k 0 l) hs' (Nat.le_refl _) h7) hs (Nat.le_refl _) h2 h3 h4 h5 h6 h7
    · exact one_none hs (Nat.le_refl _) h2 h3 h4 h5 h6 h7
end
section
open Go.RowKit nam lex
def PaPost (o : Ex × Nat × Int) (w : World) (e : Ending) (w' : World) : Prop :=
 ∃ (a : Option Addr) (c : Nat), e = .returned (.tuple #[.agg #[.int .u8 (o.1.op : Int), .int .i64 o.1.n, .slice a o.1.args.length c], .int .i64 (o.2.1 : Int), .int .i64 o.2.2]) ∧ Lies w' (From w) (.slice a o.1.args.length c) o.1.args ∧ Below w.heap.size w w'
theorem pa_zero {w w' : World} {N0 p : Nat} {c : Int} (hb : Below w.heap.size w w') (h0 : w.heap.size ≤ N0) : PaPost (Ex.zero, p, c) w (.returned (.tuple #[.agg #[.int .u8 0, .int .i64 0, .slice none 0 0], .int .i64 (p : Int), .int .i64 c])) (set3 w' N0 0 0 none 0 0) := by
 refine ⟨none, 0, rfl, .nil, ?_⟩
 have h1 := set3_only (F := fun _ => False) (Only.of_below hb) (b := N0) (A := 0) (N := 0) (p := none) (n := 0) (c := 0) h0
 exact only_none h1 (fun k h => h)
theorem parseO_err {s : ByteArray} (h : (toksO s).2.2 ≠ 0) : parseO s = (Ex.zero, (toksO s).2.1, (toksO s).2.2) := by unfold parseO; rw [if_pos h]
theorem parseO_bad {s : ByteArray} (h : (toksO s).2.2 = 0) {l : List Tok} (hp : par 4000 0 (toksO s).1 = .bad l) : parseO s = (Ex.zero, placeOf l (rn s 0).length, 80) := by unfold parseO; rw [if_neg (by simp [h]), hp]
theorem parseO_more {s : ByteArray} (h : (toksO s).2.2 = 0) {l : List Tok} {x : Ex} (hp : par 4000 0 (toksO s).1 = .ok x l) (hl : l ≠ []) : parseO s = (Ex.zero, placeOf l (rn s 0).length, 80) := by
 unfold parseO; rw [if_neg (by simp [h]), hp]
 cases l with
 | nil => exact absurd rfl hl
 | cons t l => rfl
theorem parseO_deep {s : ByteArray} (h : (toksO s).2.2 = 0) {x : Ex} (hp : par 4000 0 (toksO s).1 = .ok x []) (hd : 16 < x.dep) : parseO s = (Ex.zero, 0, 81) := by unfold parseO; rw [if_neg (by simp [h]), hp]; simp only []; rw [if_pos hd]
theorem parseO_ok {s : ByteArray} (h : (toksO s).2.2 = 0) {x : Ex} (hp : par 4000 0 (toksO s).1 = .ok x []) (hd : ¬ 16 < x.dep) : parseO s = (x, 0, 0) := by unfold parseO; rw [if_neg (by simp [h]), hp]; simp only []; rw [if_neg hd]
set_option maxHeartbeats 1600000 in
set_option maxRecDepth 1000000 in
theorem parse_err {s : ByteArray} (h : (toksO s).2.2 ≠ 0) (w : World) : Calls Tryz.prog 118 #[.string s] w (PaPost (parseO s) w) := by
 rw [parseO_err h]
 obtain ⟨W, hW⟩ : ∃ W, w.alloc (.cells #[.int .u8 0, .int .i64 0, .slice none 0 0] 46) = W := ⟨_, rfl⟩
 obtain ⟨N0, hN0⟩ : ∃ N, w.heap.size = N := ⟨_, rfl⟩
 have hwb : Below w.heap.size w W := by rw [← hW]; exact (Below.refl _ _).alloc (Nat.le_refl _) _
 have hb0 : Bx W N0 0 0 none 0 0 := by rw [← hW]; exact heap_last hN0.symm
 obtain ⟨cd, hcd⟩ : ∃ cd, (toksO s).2.2 = cd := ⟨_, rfl⟩
 obtain ⟨pl, hpl⟩ : ∃ pl, (toksO s).2.1 = pl := ⟨_, rfl⟩
 have HT := Lib.hid (tokens_any s W)
 unfold TokPost at HT
 rw [hcd, hpl] at HT ⊢
 rw [hcd] at h
 have hne : (cd != 0) = true := by simpa using h
 have HB := Lib.hid hwb; have HB0 := Lib.hid hb0; have HN := Lib.hid hN0
 clear hwb hb0 h hcd hpl
 go_enter Tryz.func118, Tryz.ntmps118
 go_wp2_with fail
 refine HT.out.mono ?_
 rintro e w1 ⟨v, rfl, htk, hb1⟩
 have h0 := HB0.out.under hb1
 have HP : Hid (PaPost (Ex.zero, pl, cd) w (.returned (.tuple #[.agg #[.int .u8 0, .int .i64 0, .slice none 0 0], .int .i64 (pl : Int), .int .i64 cd])) (set3 w1 N0 0 0 none 0 0)) := Lib.hid (pa_zero (HB.out.trans (hb1.mono HB.out.size)) (by have := HN.out; omega))
 obtain ⟨a1, a2, a3, a4, a5, a6⟩ := h0.cells
 clear htk hb1 h0
 go_wp2_with fail
 refine bodyPost_ret (v := .tuple #[.agg #[.int .u8 0, .int .i64 0, .slice none 0 0], .int .i64 (pl : Int), .int .i64 cd]) (by simp [results, Tryz.f118, go_sem, a1, a2, a3]) rfl HP.out
structure Pa (s : ByteArray) (w W : World) (N0 n rc : Nat) (S : Src) (w3 : World) : Prop where
 code : (toksO s).2.2 = 0
 below : Below w.heap.size w w3
 z : Bx w3 N0 0 0 none 0 0
 n0 : w.heap.size = N0
 rs : Rs S w3 0
 toks : S.toks = (toksO s).1
 len : (toksO s).1.length = n
 en : S.en = rc
 rc : (rn s 0).length = rc
 rb : N0 < S.rb
theorem Pa.of {s : ByteArray} {w W : World} {N0 n rc : Nat} {a : Option Addr} {c N2 : Nat} {w1 w2 w3 : World} (hS : (toksO s).2.2 = 0) (hB : Below w.heap.size w W) (hB0 : Bx W N0 0 0 none 0 0) (hN : w.heap.size = N0) (hn : (toksO s).1.length = n) (hrc : (rn s 0).length = rc)
  (htk : Toks w1 W.heap.size (.slice a n c) (toksO s).1) (hb1 : Below W.heap.size W w1) (hb2 : Below w1.heap.size w1 w2) (hN2 : w2.heap.size = N2) (hw3 : w2.alloc (.cells #[.slice a n c, .int .i64 0, .int .i64 (rc : Int)] 237) = w3) : Pa s w W N0 n rc ⟨W.heap.size, .slice a n c, (toksO s).1, rc, N2⟩ w3 := by
 have hb3 : Below w2.heap.size w2 w3 := by rw [← hw3]; exact (Below.refl _ _).alloc (Nat.le_refl _) _
 have h13 : Below w1.heap.size w1 w3 := hb2.trans (hb3.mono hb2.size)
 have hW3 : Below W.heap.size W w3 := hb1.trans (h13.mono hb1.size)
 have hlt := hB0.lt
 have hz := hb1.size
 have hz2 := hb2.size
 exact ⟨hS, hB.trans (hW3.mono hB.size), hB0.under hW3, hN, ⟨toks_below htk h13, by rw [← hw3]; exact heap_last hN2.symm, Nat.zero_le _, (toks_ok s).2, (toks_ok s).1⟩, rfl, hn, rfl, hrc, by show N0 < N2; omega⟩
theorem Pa.rule {s : ByteArray} {w W : World} {N0 n rc : Nat} {S : Src} {w3 : World} (h : Pa s w W N0 n rc S w3) : Calls Tryz.prog 162 #[ptr S.rb] w3 (PPost S (par 4000 0 (toksO s).1) w3) := by
 have h1 := rule_any S 4000 0 0 w3 (by omega) h.rs (by unfold need; rw [at_len]; have := h.rs.few; omega)
 have e : S.at 0 = (toksO s).1 := by unfold Src.at; rw [List.drop_zero]; exact h.toks
 rw [e] at h1
 exact h1
structure Pb (s : ByteArray) (w : World) (N0 n rc : Nat) (S : Src) (w4 w5 : World) (A M : Int) (p : Option Addr) (n' c' : Nat) (b : Bool) (i : Nat) : Prop where
 code : (toksO s).2.2 = 0
 below : Below w.heap.size w w5
 z : Bx w4 N0 0 0 none 0 0
 box : Bx w5 N0 A M p n' c'
 rs : Rs S w5 i
 le : i ≤ n
 tells : Tells S (fun k => w.heap.size ≤ k ∧ k ≠ N0) (par 4000 0 (toksO s).1) w5 A M p n' c' b i
 rc : (rn s 0).length = rc
 toks : S.toks.length = n
 n0 : w.heap.size = N0
theorem Pb.of {s : ByteArray} {w W : World} {N0 n rc : Nat} {S : Src} {w3 w4 w5 : World} (h : Pa s w W N0 n rc S w3) {A M : Int} {p : Option Addr} {n' c' : Nat} {b : Bool} {i : Nat} (hr : Rs S w4 i) (ho : Only (Mine S) w3 w4) (ht : Tells S (From w3) (par 4000 0 (toksO s).1) w4 A M p n' c' b i)
  (hw5 : set3 w4 N0 A M p n' c' = w5) : Pb s w N0 n rc S w4 w5 A M p n' c' b i := by
 have hz : Bx w4 N0 0 0 none 0 0 := h.z.only ho h.rs
 have hn0 := h.n0
 have hlt := h.z.lt
 have hrb := h.rb
 have h34 : Below w.heap.size w w4 := h.below.trans (ho.below h.below.size (fun k hk => by rw [show k = S.rb from hk]; omega))
 have h45 := set3_only (F := fun _ => False) (Only.of_below h34) (b := N0) (A := A) (N := M) (p := p) (n := n') (c := c') (by omega)
 refine ⟨h.code, by rw [← hw5]; exact only_none h45 (fun k h => h), hz, by rw [← hw5]; exact hz.set _ _ _ _ _, by rw [← hw5]; exact hr.set3 hz, ?_, ?_, h.rc, by rw [h.toks, h.len], hn0⟩
 · have := hr.le; rw [h.toks, h.len] at this; exact this
 · have hsz := h.below.size
   cases ho2 : par 4000 0 (toksO s).1 with
   | bad l => rw [ho2] at ht; exact ht
   | ok x l =>
    rw [ho2] at ht
    obtain ⟨t0, t1, t2, t3, t4, t5⟩ := ht
    refine ⟨t0, t1, t2, t3, ?_, t5⟩
    rw [← hw5]
    refine (t4.frame fun k cc hk hcc => set3_other ?_).mono fun k hk => ?_
    · unfold From at hk; omega
    · unfold From at hk; exact ⟨by omega, by omega⟩
theorem Pb.bad {s : ByteArray} {w : World} {N0 n rc : Nat} {S : Src} {w4 w5 : World} {A M : Int} {p : Option Addr} {n' c' : Nat} {b : Bool} {i : Nat} (h : Pb s w N0 n rc S w4 w5 A M p n' c' b i) (hb : b = false ∨ i < n) : parseO s = (Ex.zero, placeOf (S.at i) rc, 80) := by
 have ht := h.tells
 have hrc := h.rc
 cases ho : par 4000 0 (toksO s).1 with
 | bad l => rw [ho] at ht; rw [parseO_bad h.code ho, ht.2, hrc]
 | ok x l =>
  rw [ho] at ht
  obtain ⟨t0, t1, t2, t3, t4, t5⟩ := ht
  have hl : l ≠ [] := by
   rcases hb with hb | hb
   · rw [hb] at t0; cases t0
   · intro e
     have := at_len S i
     rw [t5, e, h.toks] at this
     simp at this
     omega
  rw [parseO_more h.code ho hl, t5, hrc]
theorem Pb.good {s : ByteArray} {w : World} {N0 n rc : Nat} {S : Src} {w4 w5 : World} {A M : Int} {p : Option Addr} {n' c' : Nat} {i : Nat} (h : Pb s w N0 n rc S w4 w5 A M p n' c' true i) (hb : i = n) :
  ∃ x : Ex, par 4000 0 (toksO s).1 = .ok x [] ∧ A = (x.op : Int) ∧ M = x.n ∧ n' = x.args.length ∧ Lies w5 (fun k => w.heap.size ≤ k ∧ k ≠ N0) (.slice p n' c') x.args ∧ x.size ≤ 400 := by
 have ht := h.tells
 cases ho : par 4000 0 (toksO s).1 with
 | bad l => rw [ho] at ht; cases ht.1
 | ok x l =>
  rw [ho] at ht
  obtain ⟨t0, t1, t2, t3, t4, t5⟩ := ht
  have hl : l = [] := by rw [← t5]; exact at_nil (by rw [h.toks]; exact hb)
  subst hl
  exact ⟨x, rfl, t1, t2, t3, t4, by have := (par_size ho).1; have := (toks_ok s).2; omega⟩
set_option maxHeartbeats 1600000 in
set_option maxRecDepth 1000000 in
theorem parse_read {s : ByteArray} (h : (toksO s).2.2 = 0) (w : World) : Calls Tryz.prog 118 #[.string s] w (PaPost (parseO s) w) := by
 obtain ⟨W, hW⟩ : ∃ W, w.alloc (.cells #[.int .u8 0, .int .i64 0, .slice none 0 0] 46) = W := ⟨_, rfl⟩
 obtain ⟨N0, hN0⟩ : ∃ N, w.heap.size = N := ⟨_, rfl⟩
 have hwb : Below w.heap.size w W := by rw [← hW]; exact (Below.refl _ _).alloc (Nat.le_refl _) _
 have hb0 : Bx W N0 0 0 none 0 0 := by rw [← hW]; exact heap_last hN0.symm
 obtain ⟨pl, hpl⟩ : ∃ pl, (toksO s).2.1 = pl := ⟨_, rfl⟩
 have hs400 : s.size ≤ 400 := by
  rcases Nat.lt_or_ge 400 s.size with h4 | h4
  · unfold toksO at h; rw [if_pos h4] at h; simp at h
  · exact h4
 have HT := Lib.hid (tokens_any s W)
 unfold TokPost at HT
 rw [h, hpl] at HT
 have HB := Lib.hid hwb; have HB0 := Lib.hid hb0; have HN := Lib.hid hN0; have HS := Lib.hid h; have HRC := Lib.hid (fun w => Tryz.utf8_RuneCountInString s w (by omega)); have HR := Lib.hid (runeCount_rn s)
 clear hwb hb0 h hpl
 obtain ⟨O, hO⟩ : ∃ O, parseO s = O := ⟨_, rfl⟩
 rw [hO]
 have HO := Lib.hid hO; clear hO
 go_enter Tryz.func118, Tryz.ntmps118
 go_wp2_with fail
 refine HT.out.mono ?_
 rintro e w1 ⟨v, rfl, htk, hb1⟩
 obtain ⟨a, c, rfl, ha⟩ := toks_form htk
 obtain ⟨n, hn⟩ : ∃ n, (toksO s).1.length = n := ⟨_, rfl⟩
 rw [hn] at htk ⊢
 have HTK := Lib.hid htk; have HB1 := Lib.hid hb1; have HNN := Lib.hid hn; clear htk hb1 ha hn
 obtain ⟨rc, hrc⟩ : ∃ rc, (rn s 0).length = rc := ⟨_, rfl⟩
 go_wp2_with fail
 refine (HRC.out _).mono ?_
 rintro e w2 ⟨rfl, pos, hw2⟩
 rw [HR.out, hrc]
 have HRL := Lib.hid hrc; clear hrc
 have HB2 : Hid (Below w1.heap.size w1 w2) := Lib.hid (by rw [hw2]; exact below_iter w1 s pos)
 clear hw2
 obtain ⟨N2, hN2⟩ : ∃ N2, w2.heap.size = N2 := ⟨_, rfl⟩
 obtain ⟨w3, hw3⟩ : ∃ w3, w2.alloc (.cells #[.slice a n c, .int .i64 0, .int .i64 (rc : Int)] 237) = w3 := ⟨_, rfl⟩
 have HPA : Hid (Pa s w W N0 n rc ⟨W.heap.size, .slice a n c, (toksO s).1, rc, N2⟩ w3) := Lib.hid (Pa.of HS.out HB.out HB0.out HN.out HNN.out HRL.out HTK.out HB1.out HB2.out hN2 hw3)
 have HRU := Lib.hid (HPA.out.rule)
 unfold ptr at HRU
 go_wp2_with fail
 refine HRU.out.mono ?_
 rintro e w4 ⟨A, M, p, n', c', b, i, rfl, hr4, ho4, ht4⟩
 obtain ⟨w5, hw5⟩ : ∃ w5, set3 w4 N0 A M p n' c' = w5 := ⟨_, rfl⟩
 have HPB := Lib.hid (Pb.of HPA.out hr4 ho4 ht4 hw5)
 obtain ⟨a1, a2, a3, a4, a5, a6⟩ := HPB.out.z.cells
 unfold set3 at hw5
 clear hr4 ho4 ht4
 obtain ⟨b1, b2, b3, b4, b5, b6⟩ := HPB.out.box.cells
 obtain ⟨c0, c1, c2, c3⟩ := HPB.out.rs.cells
 have HTK2 := Lib.hid (token_at HPB.out.rs)
 unfold tokA ptr at HTK2
 obtain ⟨pl2, hpl2⟩ : ∃ pl2, placeOf ((⟨W.heap.size, .slice a n c, (toksO s).1, rc, N2⟩ : Src).at i) rc = pl2 := ⟨_, rfl⟩
 have HPL := Lib.hid hpl2
 have hfa := field_at
 simp only [hpl2] at HTK2
 clear hpl2
 have hfin : b = false ∨ (b = true ∧ i < n) ∨ (b = true ∧ i = n) := by
  have := HPB.out.le
  cases b with
  | false => exact .inl rfl
  | true => rcases Nat.lt_or_ge i n with h | h
            · exact .inr (.inl ⟨rfl, h⟩)
            · exact .inr (.inr ⟨rfl, by omega⟩)
 rcases hfin with rfl | ⟨rfl, hin⟩ | ⟨rfl, hin⟩
 · have HE := Lib.hid (HPB.out.bad (.inl rfl))
   rw [HO.out, HPL.out] at HE
   go_wp2_with fail
   refine HTK2.out.mono ?_
   rintro e w6 ⟨rfl, hb6⟩
   obtain ⟨d1, d2, d3, d4, d5, d6⟩ := (HPB.out.box.under hb6).cells
   have HP : Hid (PaPost O w (.returned (.tuple #[.agg #[.int .u8 0, .int .i64 0, .slice none 0 0], .int .i64 (pl2 : Int), .int .i64 80])) (set3 w6 N0 0 0 none 0 0)) := Lib.hid (by rw [HE.out]; exact pa_zero (HPB.out.below.trans (hb6.mono HPB.out.below.size)) (by have := HN.out; omega))
   clear hb6
   go_wp2_with fail
   refine bodyPost_ret (v := .tuple #[.agg #[.int .u8 0, .int .i64 0, .slice none 0 0], .int .i64 (pl2 : Int), .int .i64 80]) (by simp [results, Tryz.f118, go_sem, d1, d2, d3]) rfl HP.out
 · have HE := Lib.hid (HPB.out.bad (.inr hin))
   rw [HO.out, HPL.out] at HE
   have hin' : (i : Int) < (n : Int) := by omega
   go_wp2_with fail
   refine HTK2.out.mono ?_
   rintro e w6 ⟨rfl, hb6⟩
   obtain ⟨d1, d2, d3, d4, d5, d6⟩ := (HPB.out.box.under hb6).cells
   have HP : Hid (PaPost O w (.returned (.tuple #[.agg #[.int .u8 0, .int .i64 0, .slice none 0 0], .int .i64 (pl2 : Int), .int .i64 80])) (set3 w6 N0 0 0 none 0 0)) := Lib.hid (by rw [HE.out]; exact pa_zero (HPB.out.below.trans (hb6.mono HPB.out.below.size)) (by have := HN.out; omega))
   clear hb6
   go_wp2_with fail
   refine bodyPost_ret (v := .tuple #[.agg #[.int .u8 0, .int .i64 0, .slice none 0 0], .int .i64 (pl2 : Int), .int .i64 80]) (by simp [results, Tryz.f118, go_sem, d1, d2, d3]) rfl HP.out
 · obtain ⟨x, hx1, rfl, rfl, rfl, hx5, hx6⟩ := HPB.out.good hin
   have hin' : ¬ (i : Int) < (n : Int) := by omega
   have HIN := Lib.hid hin
   have HDP := Lib.hid (deep_any hx5 (by omega))
   unfold exV at HDP
   obtain ⟨dd, hdd⟩ : ∃ dd, min 17 x.dep = dd := ⟨_, rfl⟩
   rw [hdd] at HDP
   have HX := Lib.hid (And.intro hx1 hx5)
   have HDD := Lib.hid hdd
   have hd17 : dd ≤ 17 := by omega
   clear hx1 hx5 hx6 hdd hin
   go_wp2_with fail
   refine HDP.out.mono ?_
   rintro e w6 ⟨rfl, hb6⟩
   have h6 := HPB.out.box.under hb6
   obtain ⟨d1, d2, d3, d4, d5, d6⟩ := h6.cells
   have HB6 := Lib.hid (HPB.out.below.trans (hb6.mono HPB.out.below.size))
   have HL6 := Lib.hid (HX.out.2.under hb6)
   clear hb6 h6
   by_cases hdp : 16 < dd
   · have hdp' : (dd : Int) > 16 := by omega
     have HP : Hid (PaPost O w (.returned (.tuple #[.agg #[.int .u8 0, .int .i64 0, .slice none 0 0], .int .i64 0, .int .i64 81])) (set3 w6 N0 0 0 none 0 0)) := Lib.hid (by
      rw [← HO.out, parseO_deep HS.out HX.out.1 (by have := HDD.out; omega)]; exact pa_zero HB6.out (by have := HN.out; omega))
     go_wp2_with fail
     refine bodyPost_ret (v := .tuple #[.agg #[.int .u8 0, .int .i64 0, .slice none 0 0], .int .i64 0, .int .i64 81]) (by simp [results, Tryz.f118, go_sem, d1, d2, d3]) rfl HP.out
   · have hdp' : ¬ (dd : Int) > 16 := by omega
     have HP : Hid (PaPost O w (.returned (.tuple #[.agg #[.int .u8 (x.op : Int), .int .i64 x.n, .slice p x.args.length c'], .int .i64 0, .int .i64 0])) (set3 w6 N0 (x.op : Int) x.n p x.args.length c')) := Lib.hid (by
      rw [← HO.out, parseO_ok HS.out HX.out.1 (by have := HDD.out; omega)]
      refine ⟨p, c', rfl, (HL6.out.frame fun k cc hk hcc => set3_other hk.2).mono fun k hk => hk.1, ?_⟩
      exact only_none (set3_only (F := fun _ => False) (Only.of_below HB6.out) (by have := HN.out; omega)) (fun k h => h))
     go_wp2_with fail
     refine bodyPost_ret (v := .tuple #[.agg #[.int .u8 (x.op : Int), .int .i64 x.n, .slice p x.args.length c'], .int .i64 0, .int .i64 0]) (by simp [results, Tryz.f118, go_sem, d1, d2, d3]) rfl HP.out
theorem parse_any (s : ByteArray) (w : World) : Calls Tryz.prog 118 #[.string s] w (PaPost (parseO s) w) := by
 by_cases h : (toksO s).2.2 = 0
 · exact parse_read h w
 · exact parse_err h w
end
end Go.Proofs.YtepdecnegihhhaaGreatDoor.exp
