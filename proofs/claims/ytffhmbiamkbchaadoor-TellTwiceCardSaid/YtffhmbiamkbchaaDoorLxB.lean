/- A row of tokens in memory, the closures that keep the last one, and those who make them. -/
import Derived.Test.YtffhmbiamkbchaaDoorLxA
import Derived.Test.YtffhmbiamkbchaaDoorMNm
import Derived.Lib.BufferOwn
import Derived.Deep.QuietTactic
import Derived.Deep.RegionWith
import Derived.IntWalk
import Derived.Deep.DeepCutAuto
import Derived.StillTailTactics
namespace Go.Proofs.YtffhmbiamkbchaaDoor.lex
set_option linter.unusedSimpArgs false
set_option linter.unusedVariables false
open Go.RowKit nam

def tokV (t : Tok) : List Value := [.int .u8 t.kind, .string (textOf t.text), .int .i64 t.n, .int .i64 t.place]
def flat (l : List Tok) : List Value := l.flatMap tokV
theorem flat_length' (l : List Tok) : (flat l).length = 4 * l.length := by
  induction l with
  | nil => rfl
  | cons t l ih =>
    have e : flat (t :: l) = tokV t ++ flat l := rfl
    have e4 : (tokV t).length = 4 := rfl
    rw [e, List.length_append, e4, ih, List.length_cons]
    omega
theorem flat_snoc (l : List Tok) (t : Tok) : flat (l ++ [t]) = flat l ++ tokV t := by simp [flat]
/-- The row of tokens that a slice holds, on a block of one's own. -/
def Toks (w : World) (B : Nat) (v : Value) (l : List Tok) : Prop := w.ownsRow B 75 4 v l.length (flat l)

/-- The last token's cells. -/
theorem last_cells {w : World} {B g cap : Nat} {done : List Tok} {t : Tok} (h : Toks w B (.slice (some ⟨g, 0, none⟩) (done.length + 1) cap) (done ++ [t])) :
    w.cell? ⟨g, 4 * done.length, none⟩ = some (.int .u8 t.kind) ∧ w.cell? ⟨g, 4 * done.length + 1, none⟩ = some (.string (textOf t.text)) ∧ w.cell? ⟨g, 4 * done.length + 2, none⟩ = some (.int .i64 t.n) ∧ w.cell? ⟨g, 4 * done.length + 3, none⟩ = some (.int .i64 t.place) ∧
    (∀ j, w.frozen? ⟨g, j, none⟩ = false) := by
  unfold Toks at h
  rw [flat_snoc, List.length_append] at h
  have hl := flat_length' done
  have hj : ∀ i, i < 4 → w.cell? ⟨g, 4 * done.length + i, none⟩ = (tokV t)[i]? := fun i hi => by
    rw [World.ownsRow.cellAt h (4 * done.length + i) (by omega), List.getElem?_append_right (by omega)]
    congr 1; omega
  exact ⟨hj 0 (by omega), hj 1 (by omega), hj 2 (by omega), hj 3 (by omega), fun j => World.ownsRow.frozenAt h j⟩
/-- A store into the last token's text. -/
theorem set_text {w : World} {B g cap : Nat} {done : List Tok} {t : Tok} (h : Toks w B (.slice (some ⟨g, 0, none⟩) (done.length + 1) cap) (done ++ [t])) (x : List Nat) :
    Toks (w.setCell ⟨g, 4 * done.length + 1, none⟩ (.string (textOf x))) B (.slice (some ⟨g, 0, none⟩) (done.length + 1) cap) (done ++ [⟨t.kind, x, t.n, t.place⟩]) := by
  unfold Toks at *
  rw [flat_snoc, List.length_append] at *
  have h2 := (World.ownsRow.stored h (4 * done.length + 1) (.string (textOf x))).1
  have hl := flat_length' done
  rw [List.set_append, if_neg (by omega), show 4 * done.length + 1 - (flat done).length = 1 by omega] at h2
  exact h2
theorem set_num {w : World} {B g cap : Nat} {done : List Tok} {t : Tok} (h : Toks w B (.slice (some ⟨g, 0, none⟩) (done.length + 1) cap) (done ++ [t])) (n : Nat) :
    Toks (w.setCell ⟨g, 4 * done.length + 2, none⟩ (.int .i64 n)) B (.slice (some ⟨g, 0, none⟩) (done.length + 1) cap) (done ++ [⟨t.kind, t.text, n, t.place⟩]) := by
  unfold Toks at *
  rw [flat_snoc, List.length_append] at *
  have h2 := (World.ownsRow.stored h (4 * done.length + 2) (.int .i64 n)).1
  have hl := flat_length' done
  rw [List.set_append, if_neg (by omega), show 4 * done.length + 2 - (flat done).length = 2 by omega] at h2
  exact h2
theorem set_kind {w : World} {B g cap : Nat} {done : List Tok} {t : Tok} (h : Toks w B (.slice (some ⟨g, 0, none⟩) (done.length + 1) cap) (done ++ [t])) (k : Nat) :
    Toks (w.setCell ⟨g, 4 * done.length, none⟩ (.int .u8 k)) B (.slice (some ⟨g, 0, none⟩) (done.length + 1) cap) (done ++ [⟨k, t.text, t.n, t.place⟩]) := by
  unfold Toks at *
  rw [flat_snoc, List.length_append] at *
  have h2 := (World.ownsRow.stored h (4 * done.length) (.int .u8 k)).1
  have hl := flat_length' done
  rw [List.set_append, if_neg (by omega), show 4 * done.length - (flat done).length = 0 by omega] at h2
  exact h2
theorem toks_below {w w' : World} {B : Nat} {v : Value} {l : List Tok} (h : Toks w B v l) (hb : Below w.heap.size w w') : Toks w' B v l := own_below h hb
/-- The box in which a closure finds the token. -/
def Box (w : World) (b g o : Nat) : Prop := w.heap[b]? = some (.cells #[.pointer (some ⟨g, o, none⟩)] 107 (0, 0))
theorem Box.cell {w : World} {b g o : Nat} (h : Box w b g o) : w.cell? ⟨b, 0, none⟩ = some (.pointer (some ⟨g, o, none⟩)) := cell_of_one h
theorem Box.lt {w : World} {b g o : Nat} (h : Box w b g o) : b < w.heap.size := (Array.getElem?_eq_some_iff.1 h).1

/-- What the call of a keeper leaves. -/
def KeptPost (w : World) (B g cap : Nat) (done : List Tok) : Goes → Ending → World → Prop
  | .yes t, e, w' => e = .returned (.tuple #[.bool true, .int .i64 0]) ∧ Toks w' B (.slice (some ⟨g, 0, none⟩) (done.length + 1) cap) (done ++ [t]) ∧ w.grownBy w' (some g)
  | .no, e, w' => e = .returned (.tuple #[.bool false, .int .i64 0]) ∧ Below w.heap.size w w'
  | .big, e, w' => e = .returned (.tuple #[.bool false, .int .i64 71]) ∧ Below w.heap.size w w'
theorem bcell {W w1 : World} (hb : Below W.heap.size W w1) : (∀ b o, b < W.heap.size → w1.cell? ⟨b, o, none⟩ = W.cell? ⟨b, o, none⟩) ∧ (∀ b o, b < W.heap.size → w1.frozen? ⟨b, o, none⟩ = W.frozen? ⟨b, o, none⟩) :=
  ⟨fun b o h => hb.cell (p := ⟨b, o, none⟩) h, fun b o h => hb.frozen (p := ⟨b, o, none⟩) h⟩
theorem grown_of_below {w w' : World} (hb : Below w.heap.size w w') (row : Option Nat) : w.grownBy w' row := ⟨hb.os, hb.tape, hb.output, hb.size, fun k hk _ => hb.block k hk⟩

set_option maxRecDepth 100000 in
theorem name1_any {w : World} {B b g cap p r : Nat} {done : List Tok} {t : Tok} (hk : t.kind = 1) (hw : Wf t p) (hp : p ≤ 1000) (hr : okR r) (hbox : Box w b g (4 * done.length)) (h : Toks w B (.slice (some ⟨g, 0, none⟩) (done.length + 1) cap) (done ++ [t])) :
    Calls Tryd.prog 79 #[.int .i32 r, .pointer (some ⟨b, 0, none⟩)] w (KeptPost w B g cap done (keepOn t r)) := by
  have hsz := textOf_bound t.text 1000 (by have := hw.len; omega)
  have hs4 : (Utf8.encode (r : Int)).size ≤ 4 := by rw [textOf_one r hr]; exact textOf_bound [r] 1 (by simp)
  have HSN := Lib.hid (textOf_snoc t.text r hr)
  have HH := Lib.hid h
  have HW := Lib.hid hw
  have HB := Lib.hid hbox
  have HK := Lib.hid hk
  clear h hw hbox
  cases hl : letB r with
  | false =>
    have HP : Hid (keepOn t r = .no) := Lib.hid (by unfold keepOn; rw [if_pos hk, hl]; rfl)
    rw [HP.out]
    go_enter Tryd.func79, Tryd.ntmps79
    clear hk
    go_wp2_with fail
    refine (letter_no hl hr _).mono ?_
    rintro e w1 ⟨rfl, hb1⟩
    have HB1 := Lib.hid hb1; clear hb1
    go_wp2_with fail
    go_ret2
    exact ⟨rfl, HB1.out⟩
  | true =>
    have HP : Hid (keepOn t r = .yes ⟨1, t.text ++ [r], t.n, t.place⟩) := Lib.hid (by unfold keepOn; rw [if_pos hk, hl]; rfl)
    rw [HP.out]
    go_enter Tryd.func79, Tryd.ntmps79
    clear hk
    go_wp2_with fail
    refine (letter_yes hl hr _).mono ?_
    rintro e w1 ⟨rfl, hb1⟩
    have HT1 := Lib.hid (toks_below HH.out hb1)
    have hc1 : w1.cell? ⟨b, 0, none⟩ = some (.pointer (some ⟨g, 4 * done.length, none⟩)) := by rw [hb1.cell (p := ⟨b, 0, none⟩) HB.out.lt]; exact HB.out.cell
    obtain ⟨_, hc2, _, _, hf⟩ := last_cells HT1.out
    have hf2 := hf (4 * done.length + 1)
    have HB1 := Lib.hid hb1
    clear hb1 hf
    go_wp2_with fail
    go_ret2
    exact ⟨rfl, by rw [HSN.out]; have := set_text HT1.out (t.text ++ [r]); rw [HK.out] at this; exact this, Lib.grownBy_setB (grown_of_below HB1.out _) _ _⟩

theorem str_ne {a : ByteArray} {l : List UInt8} (h : a ≠ ⟨l.toArray⟩) : (a.toList == l) = false := by
  rw [beq_eq_false_iff_ne]
  intro e
  rw [ByteArray.toList_eq] at e
  exact h (byteArray_ext e)
theorem str_eq {a : ByteArray} {l : List UInt8} (h : a = ⟨l.toArray⟩) : (a.toList == l) = true := by
  rw [h, ByteArray.toList_eq]; simp
set_option maxRecDepth 1000000 in
theorem sign1_any {w : World} {B b g cap p r : Nat} {done : List Tok} {t : Tok} (hk : t.kind = 3) (hw : Wf t p) (hp : p ≤ 1000) (hr : okR r) (hbox : Box w b g (4 * done.length)) (h : Toks w B (.slice (some ⟨g, 0, none⟩) (done.length + 1) cap) (done ++ [t])) :
    Calls Tryd.prog 83 #[.int .i32 r, .pointer (some ⟨b, 0, none⟩)] w (KeptPost w B g cap done (keepOn t r)) := by
  have hsz := textOf_bound t.text 1000 (by have := hw.len; omega)
  have hs4 : (Utf8.encode (r : Int)).size ≤ 4 := by rw [textOf_one r hr]; exact textOf_bound [r] 1 (by simp)
  have HSN := Lib.hid (textOf_snoc t.text r hr)
  have HH := Lib.hid h
  have HW := Lib.hid hw
  have hc1 := hbox.cell
  obtain ⟨_, hc2, _, _, hf⟩ := last_cells h
  have hf2 := hf (4 * done.length + 1)
  have HB := Lib.hid hbox
  have HK := Lib.hid hk
  have h1 := two_iff hw.ok hr 33 (by omega)
  have h2 := two_iff hw.ok hr 60 (by omega)
  clear h hw hbox hf
  obtain ⟨X, eX⟩ : ∃ X, textOf t.text ++ Utf8.encode (r : Int) = X := ⟨_, rfl⟩
  rw [HSN.out] at eX
  rw [eX] at h1 h2
  have HX := Lib.hid eX
  rw [← HSN.out] at eX
  by_cases e1 : t.text ++ [r] = [33, 61] ∨ t.text ++ [r] = [60, 61]
  · have HP : Hid (keepOn t r = .yes ⟨3, t.text ++ [r], t.n, t.place⟩) := Lib.hid (by unfold keepOn; rw [if_neg (by omega), if_neg (by omega), if_pos e1])
    rw [HP.out]
    have HS := Lib.hid (set_text HH.out (t.text ++ [r]))
    clear hk
    by_cases e2 : t.text ++ [r] = [33, 61]
    · have b1 : (X.toList == [33, 61]) = true := str_eq (h1.2 e2)
      clear h1 h2 e1 e2
      go_enter Tryd.func83, Tryd.ntmps83
      go_wp2_with fail
      go_ret2
      exact ⟨rfl, by have := HS.out; rw [HK.out, HX.out] at this; exact this, Lib.grownBy_setB (grown_of_below (Below.refl _ _) _) _ _⟩
    · have b1 : (X.toList == [33, 61]) = false := str_ne (fun e => e2 (h1.1 e))
      have b2 : (X.toList == [60, 61]) = true := str_eq (h2.2 (e1.resolve_left e2))
      clear h1 h2 e1 e2
      go_enter Tryd.func83, Tryd.ntmps83
      go_wp2_with fail
      go_ret2
      exact ⟨rfl, by have := HS.out; rw [HK.out, HX.out] at this; exact this, Lib.grownBy_setB (grown_of_below (Below.refl _ _) _) _ _⟩
  · have HP : Hid (keepOn t r = .no) := Lib.hid (by unfold keepOn; rw [if_neg (by omega), if_neg (by omega), if_neg e1])
    rw [HP.out]
    have b1 : (X.toList == [33, 61]) = false := str_ne (fun e => e1 (.inl (h1.1 e)))
    have b2 : (X.toList == [60, 61]) = false := str_ne (fun e => e1 (.inr (h2.1 e)))
    clear h1 h2 hk e1
    go_enter Tryd.func83, Tryd.ntmps83
    go_wp2_with fail
    go_ret2
    exact ⟨rfl, Below.refl _ _⟩

theorem ones_q {r d : Nat} (h : (r : Int) = 48 + d) (hd : d ≤ 9) (w : World) : Calls Tryd.prog 80 #[.int .i32 r] w fun e w' => e = .returned (.int .i64 d) ∧ w' = w :=
  (ones_lx h hd w).mono fun _ _ ⟨h1, h2⟩ => ⟨h1, h2.symm⟩
set_option maxRecDepth 1000000 in
theorem number1_any {w : World} {B b g cap p r : Nat} {done : List Tok} {t : Tok} (hk : t.kind = 2) (hw : Wf t p) (hp : p ≤ 1000) (hr : okR r) (hbox : Box w b g (4 * done.length)) (h : Toks w B (.slice (some ⟨g, 0, none⟩) (done.length + 1) cap) (done ++ [t])) :
    Calls Tryd.prog 81 #[.int .i32 r, .pointer (some ⟨b, 0, none⟩)] w (KeptPost w B g cap done (keepOn t r)) := by
  have hn := hw.num
  have HH := Lib.hid h
  have HW := Lib.hid hw
  have hc1 := hbox.cell
  obtain ⟨_, _, hc2, _, hf⟩ := last_cells h
  have hf2 := hf (4 * done.length + 2)
  have HB := Lib.hid hbox
  have HK := Lib.hid hk
  clear h hw hbox hf
  cases hd : digB r with
  | false =>
    have HP : Hid (keepOn t r = .no) := Lib.hid (by unfold keepOn; rw [if_neg (by omega), if_pos hk, hd]; rfl)
    rw [HP.out]
    clear hk
    go_enter Tryd.func81, Tryd.ntmps81
    go_wp2_with ((with_reducible refine (digit_no hd _).mono ?_); rintro e w1 ⟨rfl, rfl⟩)
    go_ret2
    exact ⟨rfl, Below.refl _ _⟩
  | true =>
    have hd' : 48 ≤ r ∧ r ≤ 57 := by unfold digB at hd; simpa using hd
    obtain ⟨d, hrd⟩ : ∃ d, r = 48 + d := ⟨r - 48, by omega⟩
    have hd9 : d ≤ 9 := by omega
    have hri : (r : Int) = 48 + d := by omega
    have HR := Lib.hid hri
    have HD := Lib.hid hd
    have hd9' : (d : Int) ≤ 9 := by omega
    by_cases hbig : (9223372036854775807 - d) / 10 < t.n
    · have HP : Hid (keepOn t r = .big) := Lib.hid (by unfold keepOn; rw [if_neg (by omega), if_pos hk, hd, if_pos rfl, if_pos (by rw [hrd]; rw [Nat.add_sub_cancel_left]; exact hbig)])
      rw [HP.out]
      have hb' : ((9223372036854775807 : Int) - d) / 10 < t.n := by omega
      clear hk hrd hri hd hd' hbig
      go_enter Tryd.func81, Tryd.ntmps81
      go_wp2_with ((with_reducible refine (digit_yes HD.out _).mono ?_); rintro e w1 ⟨rfl, rfl⟩)
      go_quiet ((go_at_call 80; exact Calls.quiet_of_same (ones_q HR.out hd9 _)))
      go_wp2_with fail
      go_ret2
      exact ⟨rfl, ⟨rfl, rfl, rfl, Nat.le_refl _, fun _ _ => rfl⟩⟩
    · have HP : Hid (keepOn t r = .yes ⟨2, t.text, 10 * t.n + d, t.place⟩) := Lib.hid (by
        unfold keepOn
        rw [if_neg (by omega), if_pos hk, hd, if_pos rfl, if_neg (by rw [hrd]; rw [Nat.add_sub_cancel_left]; exact hbig), hrd, Nat.add_sub_cancel_left])
      rw [HP.out]
      have HS := Lib.hid (fun (n : Nat) => set_num (w := w.drewN n) HH.out (10 * t.n + d))
      have hb' : ¬ ((9223372036854775807 : Int) - d) / 10 < t.n := by omega
      have hm2 : (10 : Int) * t.n + d ≤ 9223372036854775807 := by omega
      have hw1 : IntKind.i64.wrap (10 * (t.n : Int)) = 10 * t.n := IntWalk.i64_in _ (by omega)
      have hw2 : IntKind.i64.wrap (10 * (t.n : Int) + d) = 10 * t.n + d := IntWalk.i64_in _ (by omega)
      have HW1 := Lib.hid hw1; have HBB := Lib.hid hb'
      have HW2 := Lib.hid hw2
      clear hk hrd hri hd hd' hbig hw1 hw2
      go_enter Tryd.func81, Tryd.ntmps81
      go_wp2_with ((with_reducible refine (digit_yes HD.out _).mono ?_); rintro e w1 ⟨rfl, rfl⟩)
      go_quiet ((go_at_call 80; exact Calls.quiet_of_same (ones_q HR.out hd9 _)))
      have hb2 := HBB.out
      go_wp2_with fail
      have hw1 := HW1.out
      have hw2 := HW2.out
      have e1 : (w.drewN nq).drew.cell? ⟨b, 0, none⟩ = some (.pointer (some ⟨g, 4 * done.length, none⟩)) := hc1
      have e2 : (w.drewN nq).drew.cell? ⟨g, 4 * done.length + 2, none⟩ = some (.int .i64 t.n) := hc2
      have e3 : (w.drewN nq).drew.frozen? ⟨g, 4 * done.length + 2, none⟩ = false := hf2
      have HT : Hid (Toks (w.drewN nq).drew B (.slice (some ⟨g, 0, none⟩) (done.length + 1) cap) (done ++ [t])) := HH.out
      have HG : Hid (Below w.heap.size w (w.drewN nq).drew) := ⟨rfl, rfl, rfl, Nat.le_refl _, fun _ _ => rfl⟩
      refine wp_region_still_tail 11 (by kernel_rfl) (by kernel_rfl) ?_
      simp only [List.take_succ_cons, List.take_zero, List.drop_succ_cons, List.drop_zero]
      change wpStill _ _ (w.drewN nq).drew (fun a' => wpList _ _ _ _ a' (w.drewN nq).drew) _ _
      generalize (w.drewN nq).drew = w2 at e1 e2 e3 HT HG ⊢
      clear hc1 hc2 hf2
      iterate 7 still_step
      still_call (ones_q HR.out hd9 _)
      iterate 3 still_step
      refine wpStill_nil ?_
      go_wp2_with fail
      go_ret2
      exact ⟨rfl, by have := set_num HT.out (10 * t.n + d); rw [HK.out] at this; exact this, Lib.grownBy_setB (grown_of_below HG.out _) _ _⟩
/-- What the call of a maker leaves: a keeper on a box of its own. -/
def MadePost (w : World) (B g cap : Nat) (done : List Tok) (K : Nat) (t : Tok) (e : Ending) (w' : World) : Prop :=
  ∃ b, w.heap.size ≤ b ∧ e = .returned (.func (.func K) #[] #[.pointer (some ⟨b, 0, none⟩)]) ∧ Box w' b g (4 * done.length) ∧ Toks w' B (.slice (some ⟨g, 0, none⟩) (done.length + 1) cap) (done ++ [t]) ∧ w.grownBy w' (some g)
theorem toks_lt {w : World} {B g n cap : Nat} {l : List Tok} (h : Toks w B (.slice (some ⟨g, 0, none⟩) n cap) l) : B ≤ g ∧ g < w.heap.size := World.ownsRow.lt h g rfl
theorem Box.set {w : World} {b g o : Nat} (h : Box w b g o) {a : Addr} (ha : b ≠ a.block) (u : Value) : Box (w.setCell a u) b g o := (heap_setCell_other w a b u ha).trans h
theorem made_text {w : World} {B g cap K k : Nat} {x : List Nat} {done : List Tok} {t : Tok} (h : Toks w B (.slice (some ⟨g, 0, none⟩) (done.length + 1) cap) (done ++ [t])) :
    MadePost w B g cap done K ⟨k, x, t.n, t.place⟩ (.returned (.func (.func K) #[] #[.pointer (some ⟨w.heap.size, 0, none⟩)])) (((w.setCell ⟨g, 4 * done.length, none⟩ (.int .u8 k)).setCell ⟨g, 4 * done.length + 1, none⟩ (.string (textOf x))).alloc (.cells #[.pointer (some ⟨g, 4 * done.length, none⟩)] 107)).drew := by
  have h2 := set_text (set_kind h k) x
  have hs : ((w.setCell ⟨g, 4 * done.length, none⟩ (.int .u8 k)).setCell ⟨g, 4 * done.length + 1, none⟩ (.string (textOf x))).heap.size = w.heap.size := by simp
  refine ⟨w.heap.size, Nat.le_refl _, rfl, ?_, World.ownsRow.drew (World.ownsRow.alloc h2 _), ?_⟩
  · rw [← hs]
    exact heap_alloc_new _ _
  · have h3 := Lib.grownBy_allocR (Lib.grownBy_setB (Lib.grownBy_setB (grown_of_below (Below.refl _ w) (some g)) (4 * done.length) (.int .u8 k)) (4 * done.length + 1) (.string (textOf x))) (.cells #[.pointer (some ⟨g, 4 * done.length, none⟩)] 107)
    exact ⟨h3.os, h3.tape, h3.output, h3.size, h3.block⟩
theorem made_num {w : World} {B g cap K k n : Nat} {done : List Tok} {t : Tok} (h : Toks w B (.slice (some ⟨g, 0, none⟩) (done.length + 1) cap) (done ++ [t])) :
    MadePost w B g cap done K ⟨k, t.text, n, t.place⟩ (.returned (.func (.func K) #[] #[.pointer (some ⟨w.heap.size, 0, none⟩)])) (((w.setCell ⟨g, 4 * done.length, none⟩ (.int .u8 k)).setCell ⟨g, 4 * done.length + 2, none⟩ (.int .i64 n)).alloc (.cells #[.pointer (some ⟨g, 4 * done.length, none⟩)] 107)).drew := by
  have h2 := set_num (set_kind h k) n
  have hs : ((w.setCell ⟨g, 4 * done.length, none⟩ (.int .u8 k)).setCell ⟨g, 4 * done.length + 2, none⟩ (.int .i64 n)).heap.size = w.heap.size := by simp
  refine ⟨w.heap.size, Nat.le_refl _, rfl, ?_, World.ownsRow.drew (World.ownsRow.alloc h2 _), ?_⟩
  · rw [← hs]
    exact heap_alloc_new _ _
  · have h3 := Lib.grownBy_allocR (Lib.grownBy_setB (Lib.grownBy_setB (grown_of_below (Below.refl _ w) (some g)) (4 * done.length) (.int .u8 k)) (4 * done.length + 2) (.int .i64 n)) (.cells #[.pointer (some ⟨g, 4 * done.length, none⟩)] 107)
    exact ⟨h3.os, h3.tape, h3.output, h3.size, h3.block⟩

set_option maxRecDepth 1000000 in
theorem name_lx {w : World} {B g cap r : Nat} {done : List Tok} {t : Tok} (hr : okR r) (h : Toks w B (.slice (some ⟨g, 0, none⟩) (done.length + 1) cap) (done ++ [t])) :
    Calls Tryd.prog 64 #[.pointer (some ⟨g, 4 * done.length, none⟩), .int .i32 r] w (MadePost w B g cap done 79 ⟨1, [r], t.n, t.place⟩) := by
  obtain ⟨hB, hg⟩ := toks_lt h
  obtain ⟨c1, c2, _, _, hf⟩ := last_cells h
  have hf1 := hf (4 * done.length)
  have hf2 := hf (4 * done.length + 1)
  have HS := Lib.hid (textOf_one r hr)
  have HM := Lib.hid (made_text (K := 79) (k := 1) (x := [r]) h)
  clear h hf
  go_enter Tryd.func64, Tryd.ntmps64
  go_wp2_with fail
  go_region
  all_goals (go_wp2_with fail; go_ret; rw [HS.out]; exact HM.out)
set_option maxRecDepth 1000000 in
theorem sign_lx {w : World} {B g cap r : Nat} {done : List Tok} {t : Tok} (hr : okR r) (h : Toks w B (.slice (some ⟨g, 0, none⟩) (done.length + 1) cap) (done ++ [t])) :
    Calls Tryd.prog 68 #[.pointer (some ⟨g, 4 * done.length, none⟩), .int .i32 r] w (MadePost w B g cap done 83 ⟨3, [r], t.n, t.place⟩) := by
  obtain ⟨hB, hg⟩ := toks_lt h
  obtain ⟨c1, c2, _, _, hf⟩ := last_cells h
  have hf1 := hf (4 * done.length)
  have hf2 := hf (4 * done.length + 1)
  have HS := Lib.hid (textOf_one r hr)
  have HM := Lib.hid (made_text (K := 83) (k := 3) (x := [r]) h)
  clear h hf
  go_enter Tryd.func68, Tryd.ntmps68
  go_wp2_with fail
  go_region
  all_goals (go_wp2_with fail; go_ret; rw [HS.out]; exact HM.out)
end Go.Proofs.YtffhmbiamkbchaaDoor.lex
