/- Plain facts on the tokens of runes, told from the left: no program's run in this file. What lex.letter, digit and ones answer of a .. -/
import Derived.Test.YtepdecnegihhhaaGreatDoorMNm
import Derived.Lib.OthersKept
import Derived.Lib.BufferOwn
import Derived.Deep.QuietTactic
import Derived.Deep.RegionWith
import Derived.IntWalk
import Derived.Deep.DeepCutAuto
import Derived.StillTailTactics
set_option linter.unusedSimpArgs false
set_option linter.unusedVariables false
namespace Go.Proofs.YtepdecnegihhhaaGreatDoor.lex
section
open nam
structure Tok where
 kind : Nat
 text : List Nat
 n : Nat
 place : Nat
def sgnB (r : Nat) : Bool := [43, 45, 42, 47, 37, 40, 41, 38, 124, 33, 61, 60].contains r
inductive Goes where
 | yes (t : Tok)
 | no
 | big
def keepOn (t : Tok) (r : Nat) : Goes :=
 if t.kind = 1 then (if letB r then .yes ⟨1, t.text ++ [r], t.n, t.place⟩ else .no)
 else if t.kind = 2 then (if digB r then (if (9223372036854775807 - (r - 48)) / 10 < t.n then .big else .yes ⟨2, t.text, 10 * t.n + (r - 48), t.place⟩) else .no)
 else if t.text ++ [r] = [33, 61] ∨ t.text ++ [r] = [60, 61] then .yes ⟨3, t.text ++ [r], t.n, t.place⟩ else .no
def keepO : Option Tok → Nat → Goes
 | none, _ => .no
 | some t, r => keepOn t r
def beg (r p : Nat) : Option Tok :=
 if letB r then some ⟨1, [r], 0, p⟩ else if digB r then some ⟨2, [], r - 48, p⟩ else if sgnB r then some ⟨3, [r], 0, p⟩ else none
def placeO : Option Tok → Nat
 | none => 0
 | some t => t.place
def scan : List Tok → Option Tok → Nat → List Nat → List Tok × Nat × Int
 | done, cur, _, [] => (done ++ cur.toList, 0, 0)
 | done, cur, p, r :: rest =>
  match keepO cur r with
  | .yes t => scan done (some t) (p + 1) rest
  | .big => ([], placeO cur, 71)
  | .no =>
   if blkB r then scan (done ++ cur.toList) none (p + 1) rest
   else match beg r p with
    | some t => scan (done ++ cur.toList) (some t) (p + 1) rest
    | none => ([], p, 70)
def toksO (s : ByteArray) : List Tok × Nat × Int := if 400 < s.size then ([], 0, 3) else scan [] none 0 (rn s 0)
theorem scan_nil (done : List Tok) (cur : Option Tok) (p : Nat) : scan done cur p [] = (done ++ cur.toList, 0, 0) := rfl
theorem scan_yes {done : List Tok} {cur : Option Tok} {p r : Nat} {rest : List Nat} {t : Tok} (h : keepO cur r = .yes t) : scan done cur p (r :: rest) = scan done (some t) (p + 1) rest := by
 simp only [scan, h]
theorem scan_big {done : List Tok} {cur : Option Tok} {p r : Nat} {rest : List Nat} (h : keepO cur r = .big) : scan done cur p (r :: rest) = ([], placeO cur, 71) := by
 simp only [scan, h]
theorem scan_blank {done : List Tok} {cur : Option Tok} {p r : Nat} {rest : List Nat} (h : keepO cur r = .no) (hb : blkB r = true) : scan done cur p (r :: rest) = scan (done ++ cur.toList) none (p + 1) rest := by
 simp only [scan, h, hb, if_true]
theorem scan_beg {done : List Tok} {cur : Option Tok} {p r : Nat} {rest : List Nat} {t : Tok} (h : keepO cur r = .no) (hb : blkB r = false) (hg : beg r p = some t) : scan done cur p (r :: rest) = scan (done ++ cur.toList) (some t) (p + 1) rest := by
 simp only [scan, h, hb, hg]; rfl
theorem scan_bad {done : List Tok} {cur : Option Tok} {p r : Nat} {rest : List Nat} (h : keepO cur r = .no) (hb : blkB r = false) (hg : beg r p = none) : scan done cur p (r :: rest) = ([], p, 70) := by
 simp only [scan, h, hb, hg]; rfl
structure Wf (t : Tok) (p : Nat) : Prop where
 kind : t.kind = 1 ∨ t.kind = 2 ∨ t.kind = 3
 ok : ∀ r ∈ t.text, okR r
 len : t.text.length ≤ p
 num : t.n ≤ 9223372036854775807
 at_ : t.place ≤ p
def WfO (cur : Option Tok) (p : Nat) : Prop := ∀ t, cur = some t → Wf t p
theorem keepOn_wf {t t' : Tok} {p r : Nat} (h : Wf t p) (hr : okR r) (hk : keepOn t r = .yes t') : Wf t' (p + 1) ∧ t'.kind = t.kind := by
 unfold keepOn at hk
 have happ : ∀ x ∈ t.text ++ [r], okR x := fun x hx => by
  rcases List.mem_append.1 hx with h1 | h1
  · exact h.ok x h1
  · simp at h1; exact h1 ▸ hr
 have hl := h.len
 have ha := h.at_
 have hn := h.num
 split at hk
 · rename_i hk1
   split at hk
   · cases hk
     exact ⟨⟨.inl rfl, happ, by simp; omega, hn, by simp; omega⟩, hk1.symm⟩
   · cases hk
 · split at hk
   · rename_i hk2
     split at hk
     · rename_i hd
       split at hk
       · cases hk
       · rename_i hnb
         cases hk
         unfold digB at hd
         simp at hd
         exact ⟨⟨.inr (.inl rfl), h.ok, by simp; omega, by simp; omega, by simp; omega⟩, hk2.symm⟩
     · cases hk
   · rename_i hk1 hk2
     split at hk
     · cases hk
       have := h.kind
       exact ⟨⟨.inr (.inr rfl), happ, by simp; omega, hn, by simp; omega⟩, by simp; omega⟩
     · cases hk
theorem beg_wf {r p : Nat} {t : Tok} (hr : okR r) (hg : beg r p = some t) : Wf t (p + 1) ∧ t.place = p := by
 unfold beg at hg
 split at hg
 · cases hg; exact ⟨⟨.inl rfl, by simpa using hr, by simp, by simp, by simp⟩, rfl⟩
 · split at hg
   · rename_i hd
     unfold digB at hd
     simp at hd
     cases hg; exact ⟨⟨.inr (.inl rfl), by simp, by simp, by simp; omega, by simp⟩, rfl⟩
   · split at hg
     · cases hg; exact ⟨⟨.inr (.inr rfl), by simpa using hr, by simp, by simp, by simp⟩, rfl⟩
     · cases hg
theorem textOf_inj {a b : List Nat} (ha : ∀ r ∈ a, okR r) (hb : ∀ r ∈ b, okR r) (h : textOf a = textOf b) : a = b := by
 rw [← rn_textOf a ha, ← rn_textOf b hb, h]
theorem textOf_snoc (l : List Nat) (r : Nat) (h : okR r) : textOf l ++ Utf8.encode (r : Int) = textOf (l ++ [r]) := by
 rw [encode_enc r h]
 apply byteArray_ext
 rw [append_toList, textOf_toList, textOf_toList]
 simp
theorem textOf_one (r : Nat) (h : okR r) : Utf8.encode (r : Int) = textOf [r] := by
 rw [encode_enc r h]
 apply byteArray_ext
 rw [textOf_toList]
 simp
theorem textOf_bound (l : List Nat) (n : Nat) (h : l.length ≤ n) : (textOf l).size ≤ 4 * n := by
 rw [textOf_size]
 have := (flat_length l).2
 omega
theorem two_iff {l : List Nat} {r : Nat} (hl : ∀ x ∈ l, okR x) (hr : okR r) (a : Nat) (ha : a < 128) : textOf (l ++ [r]) = ⟨#[UInt8.ofNat a, 61]⟩ ↔ l ++ [r] = [a, 61] := by
 have e : (⟨#[UInt8.ofNat a, 61]⟩ : ByteArray) = textOf [a, 61] := by
  apply byteArray_ext
  rw [textOf_toList]
  simp [enc, ha]
 rw [e]
 constructor
 · intro h
   refine textOf_inj ?_ ?_ h
   · intro x hx
     rcases List.mem_append.1 hx with h1 | h1
     · exact hl x h1
     · simp at h1; exact h1 ▸ hr
   · intro x hx
     simp at hx
     unfold okR
     omega
 · intro h; rw [h]
theorem nameB_one (r : Nat) (h : okR r) : nameB (textOf [r]) = letB r := by
 rw [nameB_textOf _ (by simpa using h)]
 unfold nameFrom nameFrom
 cases letB r <;> simp
end
section
open Go.RowKit nam
theorem letter_lx (r : Nat) (hr : okR r) (w : World) : Calls Tryz.prog 208 #[.int .i32 r] w fun e w' => e = .returned (.bool (letB r)) ∧ Below w.heap.size w w' := by
 have HN := Lib.hid (nameB_one r hr)
 have HO := Lib.hid (textOf_one r hr)
 go_enter Tryz.func208, Tryz.ntmps208
 go_wp2_with fail
 refine (name_any _ _).mono ?_
 rintro e w1 ⟨rfl, hb⟩
 have HB := Lib.hid hb; clear hb
 go_wp2_with fail
 go_ret
 exact ⟨ret_bool (by rw [HO.out, HN.out]), HB.out⟩
theorem letter_yes {r : Nat} (h : letB r = true) (hr : okR r) (w : World) : Calls Tryz.prog 208 #[.int .i32 r] w fun e w' => e = .returned (.bool true) ∧ Below w.heap.size w w' := by
 have := letter_lx r hr w; rwa [h] at this
theorem letter_no {r : Nat} (h : letB r = false) (hr : okR r) (w : World) : Calls Tryz.prog 208 #[.int .i32 r] w fun e w' => e = .returned (.bool false) ∧ Below w.heap.size w w' := by
 have := letter_lx r hr w; rwa [h] at this
theorem digit_lx (r : Nat) (w : World) : Calls Tryz.prog 210 #[.int .i32 r] w fun e w' => e = .returned (.bool (digB r)) ∧ w = w' := by
 go_enter Tryz.func210, Tryz.ntmps210
 go_wp2
 all_goals (go_ret; exact ⟨ret_bool (by unfold digB; rw [Bool.eq_iff_iff]; simp; omega), rfl⟩)
theorem digit_yes {r : Nat} (h : digB r = true) (w : World) : Calls Tryz.prog 210 #[.int .i32 r] w fun e w' => e = .returned (.bool true) ∧ w = w' := by
 have := digit_lx r w; rwa [h] at this
theorem digit_no {r : Nat} (h : digB r = false) (w : World) : Calls Tryz.prog 210 #[.int .i32 r] w fun e w' => e = .returned (.bool false) ∧ w = w' := by
 have := digit_lx r w; rwa [h] at this
theorem ones_lx {r d : Nat} (h : (r : Int) = 48 + d) (hd : d ≤ 9) (w : World) : Calls Tryz.prog 224 #[.int .i32 r] w fun e w' => e = .returned (.int .i64 d) ∧ w = w' := by
 have h1 : (48 : Int) ≤ r := by omega
 have h2 : (r : Int) ≤ 57 := by omega
 have H := Lib.hid h; clear h
 go_enter Tryz.func224, Tryz.ntmps224
 go_wp2
 go_ret
 exact ⟨ret_int (by have := H.out; omega), rfl⟩
end
section
open Go.RowKit nam
def tokV (t : Tok) : List Value := [.int .u8 t.kind, .string (textOf t.text), .int .i64 t.n, .int .i64 t.place]
def flat (l : List Tok) : List Value := l.flatMap tokV
theorem flat_length' (l : List Tok) : (flat l).length = 4 * l.length := by
 induction l with
 | nil => rfl
 | cons t l ih =>
  have e : flat (t :: l) = tokV t ++ flat l := rfl
  have e4 : (tokV t).length = 4 := rfl
  rw [e, List.length_append, e4, ih, List.length_cons]
  omega
theorem flat_snoc (l : List Tok) (t : Tok) : flat (l ++ [t]) = flat l ++ tokV t := by simp [flat]
def Toks (w : World) (B : Nat) (v : Value) (l : List Tok) : Prop := w.ownsRow B 241 4 v l.length (flat l)
theorem last_cells {w : World} {B g cap : Nat} {done : List Tok} {t : Tok} (h : Toks w B (.slice (some ⟨g, 0, none⟩) (done.length + 1) cap) (done ++ [t])) :
  w.cell? ⟨g, 4 * done.length, none⟩ = some (.int .u8 t.kind) ∧ w.cell? ⟨g, 4 * done.length + 1, none⟩ = some (.string (textOf t.text)) ∧ w.cell? ⟨g, 4 * done.length + 2, none⟩ = some (.int .i64 t.n) ∧ w.cell? ⟨g, 4 * done.length + 3, none⟩ = some (.int .i64 t.place) ∧
  (∀ j, w.frozen? ⟨g, j, none⟩ = false) := by
 unfold Toks at h
 rw [flat_snoc, List.length_append] at h
 have hl := flat_length' done
 have hj : ∀ i, i < 4 → w.cell? ⟨g, 4 * done.length + i, none⟩ = (tokV t)[i]? := fun i hi => by
  rw [World.ownsRow.cellAt h (4 * done.length + i) (by omega), List.getElem?_append_right (by omega)]
  congr 1; omega
 exact ⟨hj 0 (by omega), hj 1 (by omega), hj 2 (by omega), hj 3 (by omega), fun j => World.ownsRow.frozenAt h j⟩
theorem set_text {w : World} {B g cap : Nat} {done : List Tok} {t : Tok} (h : Toks w B (.slice (some ⟨g, 0, none⟩) (done.length + 1) cap) (done ++ [t])) (x : List Nat) :
  Toks (w.setCell ⟨g, 4 * done.length + 1, none⟩ (.string (textOf x))) B (.slice (some ⟨g, 0, none⟩) (done.length + 1) cap) (done ++ [⟨t.kind, x, t.n, t.place⟩]) := by
 unfold Toks at *
 rw [flat_snoc, List.length_append] at *
 have h2 := (World.ownsRow.stored h (4 * done.length + 1) (.string (textOf x))).1
 have hl := flat_length' done
 rw [List.set_append, if_neg (by omega), show 4 * done.length + 1 - (flat done).length = 1 by omega] at h2
 exact h2
theorem set_num {w : World} {B g cap : Nat} {done : List Tok} {t : Tok} (h : Toks w B (.slice (some ⟨g, 0, none⟩) (done.length + 1) cap) (done ++ [t])) (n : Nat) :
  Toks (w.setCell ⟨g, 4 * done.length + 2, none⟩ (.int .i64 n)) B (.slice (some ⟨g, 0, none⟩) (done.length + 1) cap) (done ++ [⟨t.kind, t.text, n, t.place⟩]) := by
 unfold Toks at *
 rw [flat_snoc, List.length_append] at *
 have h2 := (World.ownsRow.stored h (4 * done.length + 2) (.int .i64 n)).1
 have hl := flat_length' done
 rw [List.set_append, if_neg (by omega), show 4 * done.length + 2 - (flat done).length = 2 by omega] at h2
 exact h2
theorem set_kind {w : World} {B g cap : Nat} {done : List Tok} {t : Tok} (h : Toks w B (.slice (some ⟨g, 0, none⟩) (done.length + 1) cap) (done ++ [t])) (k : Nat) :
  Toks (w.setCell ⟨g, 4 * done.length, none⟩ (.int .u8 k)) B (.slice (some ⟨g, 0, none⟩) (done.length + 1) cap) (done ++ [⟨k, t.text, t.n, t.place⟩]) := by
 unfold Toks at *
 rw [flat_snoc, List.length_append] at *
 have h2 := (World.ownsRow.stored h (4 * done.length) (.int .u8 k)).1
 have hl := flat_length' done
 rw [List.set_append, if_neg (by omega), show 4 * done.length - (flat done).length = 0 by omega] at h2
 exact h2
theorem toks_below {w w' : World} {B : Nat} {v : Value} {l : List Tok} (h : Toks w B v l) (hb : Below w.heap.size w w') : Toks w' B v l := own_below h hb
def Box (w : World) (b g o : Nat) : Prop := w.heap[b]? = some (.cells #[.pointer (some ⟨g, o, none⟩)] 265 (0, 0))
theorem Box.cell {w : World} {b g o : Nat} (h : Box w b g o) : w.cell? ⟨b, 0, none⟩ = some (.pointer (some ⟨g, o, none⟩)) := cell_of_one h
theorem Box.lt {w : World} {b g o : Nat} (h : Box w b g o) : b < w.heap.size := (Array.getElem?_eq_some_iff.1 h).1
def KeptPost (w : World) (B g cap : Nat) (done : List Tok) : Goes → Ending → World → Prop
 | .yes t, e, w' => e = .returned (.tuple #[.bool true, .int .i64 0]) ∧ Toks w' B (.slice (some ⟨g, 0, none⟩) (done.length + 1) cap) (done ++ [t]) ∧ w.grownBy w' (some g)
 | .no, e, w' => e = .returned (.tuple #[.bool false, .int .i64 0]) ∧ Below w.heap.size w w'
 | .big, e, w' => e = .returned (.tuple #[.bool false, .int .i64 71]) ∧ Below w.heap.size w w'
theorem grown_of_below {w w' : World} (hb : Below w.heap.size w w') (row : Option Nat) : w.grownBy w' row := ⟨hb.os, hb.tape, hb.output, hb.size, fun k hk _ => hb.block k hk⟩
set_option maxRecDepth 100000 in
theorem name1_any {w : World} {B b g cap p r : Nat} {done : List Tok} {t : Tok} (hk : t.kind = 1) (hw : Wf t p) (hp : p ≤ 1000) (hr : okR r) (hbox : Box w b g (4 * done.length)) (h : Toks w B (.slice (some ⟨g, 0, none⟩) (done.length + 1) cap) (done ++ [t])) :
  Calls Tryz.prog 223 #[.int .i32 r, .pointer (some ⟨b, 0, none⟩)] w (KeptPost w B g cap done (keepOn t r)) := by
 have hsz := textOf_bound t.text 1000 (by have := hw.len; omega)
 have hs4 : (Utf8.encode (r : Int)).size ≤ 4 := by rw [textOf_one r hr]; exact textOf_bound [r] 1 (by simp)
 have HSN := Lib.hid (textOf_snoc t.text r hr)
 have HH := Lib.hid h
 have HW := Lib.hid hw
 have HB := Lib.hid hbox
 have HK := Lib.hid hk
 clear h hw hbox
 cases hl : letB r with
 | false =>
  have HP : Hid (keepOn t r = .no) := Lib.hid (by unfold keepOn; rw [if_pos hk, hl]; rfl)
  rw [HP.out]
  go_enter Tryz.func223, Tryz.ntmps223
  clear hk
  go_wp2_with fail
  refine (letter_no hl hr _).mono ?_
  rintro e w1 ⟨rfl, hb1⟩
  have HB1 := Lib.hid hb1; clear hb1
  go_wp2_with fail
  go_ret2
  exact ⟨rfl, HB1.out⟩
 | true =>
  have HP : Hid (keepOn t r = .yes ⟨1, t.text ++ [r], t.n, t.place⟩) := Lib.hid (by unfold keepOn; rw [if_pos hk, hl]; rfl)
  rw [HP.out]
  go_enter Tryz.func223, Tryz.ntmps223
  clear hk
  go_wp2_with fail
  refine (letter_yes hl hr _).mono ?_
  rintro e w1 ⟨rfl, hb1⟩
  have HT1 := Lib.hid (toks_below HH.out hb1)
  have hc1 : w1.cell? ⟨b, 0, none⟩ = some (.pointer (some ⟨g, 4 * done.length, none⟩)) := by rw [hb1.cell (p := ⟨b, 0, none⟩) HB.out.lt]; exact HB.out.cell
  obtain ⟨_, hc2, _, _, hf⟩ := last_cells HT1.out
  have hf2 := hf (4 * done.length + 1)
  have HB1 := Lib.hid hb1
  clear hb1 hf
  go_wp2_with fail
  go_ret2
  exact ⟨rfl, by rw [HSN.out]; have := set_text HT1.out (t.text ++ [r]); rw [HK.out] at this; exact this, Lib.grownBy_setB (grown_of_below HB1.out _) _ _⟩
theorem str_ne {a : ByteArray} {l : List UInt8} (h : a ≠ ⟨l.toArray⟩) : (a.toList == l) = false := by
 rw [beq_eq_false_iff_ne]
 intro e
 rw [ByteArray.toList_eq] at e
 exact h (byteArray_ext e)
theorem str_eq {a : ByteArray} {l : List UInt8} (h : a = ⟨l.toArray⟩) : (a.toList == l) = true := by
 rw [h, ByteArray.toList_eq]; simp
set_option maxRecDepth 1000000 in
theorem sign1_any {w : World} {B b g cap p r : Nat} {done : List Tok} {t : Tok} (hk : t.kind = 3) (hw : Wf t p) (hp : p ≤ 1000) (hr : okR r) (hbox : Box w b g (4 * done.length)) (h : Toks w B (.slice (some ⟨g, 0, none⟩) (done.length + 1) cap) (done ++ [t])) :
  Calls Tryz.prog 226 #[.int .i32 r, .pointer (some ⟨b, 0, none⟩)] w (KeptPost w B g cap done (keepOn t r)) := by
 have hsz := textOf_bound t.text 1000 (by have := hw.len; omega)
 have hs4 : (Utf8.encode (r : Int)).size ≤ 4 := by rw [textOf_one r hr]; exact textOf_bound [r] 1 (by simp)
 have HSN := Lib.hid (textOf_snoc t.text r hr)
 have HH := Lib.hid h
 have HW := Lib.hid hw
 have hc1 := hbox.cell
 obtain ⟨_, hc2, _, _, hf⟩ := last_cells h
 have hf2 := hf (4 * done.length + 1)
 have HB := Lib.hid hbox
 have HK := Lib.hid hk
 have h1 := two_iff hw.ok hr 33 (by omega)
 have h2 := two_iff hw.ok hr 60 (by omega)
 clear h hw hbox hf
 obtain ⟨X, eX⟩ : ∃ X, textOf t.text ++ Utf8.encode (r : Int) = X := ⟨_, rfl⟩
 rw [HSN.out] at eX
 rw [eX] at h1 h2
 have HX := Lib.hid eX
 rw [← HSN.out] at eX
 by_cases e1 : t.text ++ [r] = [33, 61] ∨ t.text ++ [r] = [60, 61]
 · have HP : Hid (keepOn t r = .yes ⟨3, t.text ++ [r], t.n, t.place⟩) := Lib.hid (by unfold keepOn; rw [if_neg (by omega), if_neg (by omega), if_pos e1])
   rw [HP.out]
   have HS := Lib.hid (set_text HH.out (t.text ++ [r]))
   clear hk
   by_cases e2 : t.text ++ [r] = [33, 61]
   · have b1 : (X.toList == [33, 61]) = true := str_eq (h1.2 e2)
     clear h1 h2 e1 e2
     go_enter Tryz.func226, Tryz.ntmps226
     go_wp2_with fail
     go_ret2
     exact ⟨rfl, by have := HS.out; rw [HK.out, HX.out] at this; exact this, Lib.grownBy_setB (grown_of_below (Below.refl _ _) _) _ _⟩
   · have b1 : (X.toList == [33, 61]) = false := str_ne (fun e => e2 (h1.1 e))
     have b2 : (X.toList == [60, 61]) = true := str_eq (h2.2 (e1.resolve_left e2))
     clear h1 h2 e1 e2
     go_enter Tryz.func226, Tryz.ntmps226
     go_wp2_with fail
     go_ret2
     exact ⟨rfl, by have := HS.out; rw [HK.out, HX.out] at this; exact this, Lib.grownBy_setB (grown_of_below (Below.refl _ _) _) _ _⟩
 · have HP : Hid (keepOn t r = .no) := Lib.hid (by unfold keepOn; rw [if_neg (by omega), if_neg (by omega), if_neg e1])
   rw [HP.out]
   have b1 : (X.toList == [33, 61]) = false := str_ne (fun e => e1 (.inl (h1.1 e)))
   have b2 : (X.toList == [60, 61]) = false := str_ne (fun e => e1 (.inr (h2.1 e)))
   clear h1 h2 hk e1
   go_enter Tryz.func226, Tryz.ntmps226
   go_wp2_with fail
   go_ret2
   exact ⟨rfl, Below.refl _ _⟩
theorem ones_q {r d : Nat} (h : (r : Int) = 48 + d) (hd : d ≤ 9) (w : World) : Calls Tryz.prog 224 #[.int .i32 r] w fun e w' => e = .returned (.int .i64 d) ∧ w' = w :=
 (ones_lx h hd w).mono fun _ _ ⟨h1, h2⟩ => ⟨h1, h2.symm⟩
set_option maxRecDepth 1000000 in
theorem number1_any {w : World} {B b g cap p r : Nat} {done : List Tok} {t : Tok} (hk : t.kind = 2) (hw : Wf t p) (hp : p ≤ 1000) (hr : okR r) (hbox : Box w b g (4 * done.length)) (h : Toks w B (.slice (some ⟨g, 0, none⟩) (done.length + 1) cap) (done ++ [t])) :
  Calls Tryz.prog 225 #[.int .i32 r, .pointer (some ⟨b, 0, none⟩)] w (KeptPost w B g cap done (keepOn t r)) := by
 have hn := hw.num
 have HH := Lib.hid h
 have HW := Lib.hid hw
 have hc1 := hbox.cell
 obtain ⟨_, _, hc2, _, hf⟩ := last_cells h
 have hf2 := hf (4 * done.length + 2)
 have HB := Lib.hid hbox
 have HK := Lib.hid hk
 clear h hw hbox hf
 cases hd : digB r with
 | false =>
  have HP : Hid (keepOn t r = .no) := Lib.hid (by unfold keepOn; rw [if_neg (by omega), if_pos hk, hd]; rfl)
  rw [HP.out]
  clear hk
  go_enter Tryz.func225, Tryz.ntmps225
  go_wp2_with ((with_reducible refine (digit_no hd _).mono ?_); rintro e w1 ⟨rfl, rfl⟩)
  go_ret2
  exact ⟨rfl, Below.refl _ _⟩
 | true =>
  have hd' : 48 ≤ r ∧ r ≤ 57 := by unfold digB at hd; simpa using hd
  obtain ⟨d, hrd⟩ : ∃ d, r = 48 + d := ⟨r - 48, by omega⟩
  have hd9 : d ≤ 9 := by omega
  have hri : (r : Int) = 48 + d := by omega
  have HR := Lib.hid hri
  have HD := Lib.hid hd
  have hd9' : (d : Int) ≤ 9 := by omega
  by_cases hbig : (9223372036854775807 - d) / 10 < t.n
  · have HP : Hid (keepOn t r = .big) := Lib.hid (by unfold keepOn; rw [if_neg (by omega), if_pos hk, hd, if_pos rfl, if_pos (by rw [hrd]; rw [Nat.add_sub_cancel_left]; exact hbig)])
    rw [HP.out]
    have hb' : ((9223372036854775807 : Int) - d) / 10 < t.n := by omega
    clear hk hrd hri hd hd' hbig
    go_enter Tryz.func225, Tryz.ntmps225
    go_wp2_with ((with_reducible refine (digit_yes HD.out _).mono ?_); rintro e w1 ⟨rfl, rfl⟩)
    go_quiet ((go_at_call 224; exact Calls.quiet_of_same (ones_q HR.out hd9 _)))
    go_wp2_with fail
    go_ret2
    exact ⟨rfl, ⟨rfl, rfl, rfl, Nat.le_refl _, fun _ _ => rfl⟩⟩
  · have HP : Hid (keepOn t r = .yes ⟨2, t.text, 10 * t.n + d, t.place⟩) := Lib.hid (by
     unfold keepOn
     rw [if_neg (by omega), if_pos hk, hd, if_pos rfl, if_neg (by rw [hrd]; rw [Nat.add_sub_cancel_left]; exact hbig), hrd, Nat.add_sub_cancel_left])
    rw [HP.out]
    have HS := Lib.hid (fun (n : Nat) => set_num (w := w.drewN n) HH.out (10 * t.n + d))
    have hb' : ¬ ((9223372036854775807 : Int) - d) / 10 < t.n := by omega
    have hm2 : (10 : Int) * t.n + d ≤ 9223372036854775807 := by omega
    have hw1 : IntKind.i64.wrap (10 * (t.n : Int)) = 10 * t.n := IntWalk.i64_in _ (by omega)
    have hw2 : IntKind.i64.wrap (10 * (t.n : Int) + d) = 10 * t.n + d := IntWalk.i64_in _ (by omega)
    have HW1 := Lib.hid hw1; have HBB := Lib.hid hb'
    have HW2 := Lib.hid hw2
    clear hk hrd hri hd hd' hbig hw1 hw2
    go_enter Tryz.func225, Tryz.ntmps225
    go_wp2_with ((with_reducible refine (digit_yes HD.out _).mono ?_); rintro e w1 ⟨rfl, rfl⟩)
    go_quiet ((go_at_call 224; exact Calls.quiet_of_same (ones_q HR.out hd9 _)))
    have hb2 := HBB.out
    go_wp2_with fail
    have hw1 := HW1.out
    have hw2 := HW2.out
    have e1 : (w.drewN nq).drew.cell? ⟨b, 0, none⟩ = some (.pointer (some ⟨g, 4 * done.length, none⟩)) := hc1
    have e2 : (w.drewN nq).drew.cell? ⟨g, 4 * done.length + 2, none⟩ = some (.int .i64 t.n) := hc2
    have e3 : (w.drewN nq).drew.frozen? ⟨g, 4 * done.length + 2, none⟩ = false := hf2
    have HT : Hid (Toks (w.drewN nq).drew B (.slice (some ⟨g, 0, none⟩) (done.length + 1) cap) (done ++ [t])) := HH.out
    have HG : Hid (Below w.heap.size w (w.drewN nq).drew) := ⟨rfl, rfl, rfl, Nat.le_refl _, fun _ _ => rfl⟩
    refine wp_region_still_tail 11 (by kernel_rfl) (by kernel_rfl) ?_
    simp only [List.take_succ_cons, List.take_zero, List.drop_succ_cons, List.drop_zero]
    change wpStill _ _ (w.drewN nq).drew (fun a' => wpList _ _ _ _ a' (w.drewN nq).drew) _ _
    generalize (w.drewN nq).drew = w2 at e1 e2 e3 HT HG ⊢
    clear hc1 hc2 hf2
    iterate 7 still_step
    still_call (ones_q HR.out hd9 _)
    iterate 3 still_step
    refine wpStill_nil ?_
    go_wp2_with fail
    go_ret2
    exact ⟨rfl, by have := set_num HT.out (10 * t.n + d); rw [HK.out] at this; exact this, Lib.grownBy_setB (grown_of_below HG.out _) _ _⟩
def MadePost (w : World) (B g cap : Nat) (done : List Tok) (K : Nat) (t : Tok) (e : Ending) (w' : World) : Prop :=
 ∃ b, w.heap.size ≤ b ∧ e = .returned (.func (.func K) #[] #[.pointer (some ⟨b, 0, none⟩)]) ∧ Box w' b g (4 * done.length) ∧ Toks w' B (.slice (some ⟨g, 0, none⟩) (done.length + 1) cap) (done ++ [t]) ∧ w.grownBy w' (some g)
theorem toks_lt {w : World} {B g n cap : Nat} {l : List Tok} (h : Toks w B (.slice (some ⟨g, 0, none⟩) n cap) l) : B ≤ g ∧ g < w.heap.size := World.ownsRow.lt h g rfl
theorem made_text {w : World} {B g cap K k : Nat} {x : List Nat} {done : List Tok} {t : Tok} (h : Toks w B (.slice (some ⟨g, 0, none⟩) (done.length + 1) cap) (done ++ [t])) :
  MadePost w B g cap done K ⟨k, x, t.n, t.place⟩ (.returned (.func (.func K) #[] #[.pointer (some ⟨w.heap.size, 0, none⟩)])) (((w.setCell ⟨g, 4 * done.length, none⟩ (.int .u8 k)).setCell ⟨g, 4 * done.length + 1, none⟩ (.string (textOf x))).alloc (.cells #[.pointer (some ⟨g, 4 * done.length, none⟩)] 265)).drew := by
 have h2 := set_text (set_kind h k) x
 have hs : ((w.setCell ⟨g, 4 * done.length, none⟩ (.int .u8 k)).setCell ⟨g, 4 * done.length + 1, none⟩ (.string (textOf x))).heap.size = w.heap.size := by simp
 refine ⟨w.heap.size, Nat.le_refl _, rfl, ?_, World.ownsRow.drew (World.ownsRow.alloc h2 _), ?_⟩
 · rw [← hs]
   exact heap_alloc_new _ _
 · have h3 := Lib.grownBy_allocR (Lib.grownBy_setB (Lib.grownBy_setB (grown_of_below (Below.refl _ w) (some g)) (4 * done.length) (.int .u8 k)) (4 * done.length + 1) (.string (textOf x))) (.cells #[.pointer (some ⟨g, 4 * done.length, none⟩)] 265)
   exact ⟨h3.os, h3.tape, h3.output, h3.size, h3.block⟩
theorem made_num {w : World} {B g cap K k n : Nat} {done : List Tok} {t : Tok} (h : Toks w B (.slice (some ⟨g, 0, none⟩) (done.length + 1) cap) (done ++ [t])) :
  MadePost w B g cap done K ⟨k, t.text, n, t.place⟩ (.returned (.func (.func K) #[] #[.pointer (some ⟨w.heap.size, 0, none⟩)])) (((w.setCell ⟨g, 4 * done.length, none⟩ (.int .u8 k)).setCell ⟨g, 4 * done.length + 2, none⟩ (.int .i64 n)).alloc (.cells #[.pointer (some ⟨g, 4 * done.length, none⟩)] 265)).drew := by
 have h2 := set_num (set_kind h k) n
 have hs : ((w.setCell ⟨g, 4 * done.length, none⟩ (.int .u8 k)).setCell ⟨g, 4 * done.length + 2, none⟩ (.int .i64 n)).heap.size = w.heap.size := by simp
 refine ⟨w.heap.size, Nat.le_refl _, rfl, ?_, World.ownsRow.drew (World.ownsRow.alloc h2 _), ?_⟩
 · rw [← hs]
   exact heap_alloc_new _ _
 · have h3 := Lib.grownBy_allocR (Lib.grownBy_setB (Lib.grownBy_setB (grown_of_below (Below.refl _ w) (some g)) (4 * done.length) (.int .u8 k)) (4 * done.length + 2) (.int .i64 n)) (.cells #[.pointer (some ⟨g, 4 * done.length, none⟩)] 265)
   exact ⟨h3.os, h3.tape, h3.output, h3.size, h3.block⟩
set_option maxRecDepth 1000000 in
theorem name_lx {w : World} {B g cap r : Nat} {done : List Tok} {t : Tok} (hr : okR r) (h : Toks w B (.slice (some ⟨g, 0, none⟩) (done.length + 1) cap) (done ++ [t])) :
  Calls Tryz.prog 209 #[.pointer (some ⟨g, 4 * done.length, none⟩), .int .i32 r] w (MadePost w B g cap done 223 ⟨1, [r], t.n, t.place⟩) := by
 obtain ⟨hB, hg⟩ := toks_lt h
 obtain ⟨c1, c2, _, _, hf⟩ := last_cells h
 have hf1 := hf (4 * done.length)
 have hf2 := hf (4 * done.length + 1)
 have HS := Lib.hid (textOf_one r hr)
 have HM := Lib.hid (made_text (K := 223) (k := 1) (x := [r]) h)
 clear h hf
 go_enter Tryz.func209, Tryz.ntmps209
 go_wp2_with fail
 go_region
 all_goals (go_wp2_with fail; go_ret; rw [HS.out]; exact HM.out)
set_option maxRecDepth 1000000 in
theorem sign_lx {w : World} {B g cap r : Nat} {done : List Tok} {t : Tok} (hr : okR r) (h : Toks w B (.slice (some ⟨g, 0, none⟩) (done.length + 1) cap) (done ++ [t])) :
  Calls Tryz.prog 212 #[.pointer (some ⟨g, 4 * done.length, none⟩), .int .i32 r] w (MadePost w B g cap done 226 ⟨3, [r], t.n, t.place⟩) := by
 obtain ⟨hB, hg⟩ := toks_lt h
 obtain ⟨c1, c2, _, _, hf⟩ := last_cells h
 have hf1 := hf (4 * done.length)
 have hf2 := hf (4 * done.length + 1)
 have HS := Lib.hid (textOf_one r hr)
 have HM := Lib.hid (made_text (K := 226) (k := 3) (x := [r]) h)
 clear h hf
 go_enter Tryz.func212, Tryz.ntmps212
 go_wp2_with fail
 go_region
 all_goals (go_wp2_with fail; go_ret; rw [HS.out]; exact HM.out)
end
section
open Go.RowKit nam
set_option maxHeartbeats 2000000 in
set_option maxRecDepth 1000000 in
theorem number_lx {w : World} {B g cap r : Nat} {done : List Tok} {t : Tok} (hd : digB r = true) (h : Toks w B (.slice (some ⟨g, 0, none⟩) (done.length + 1) cap) (done ++ [t])) :
  Calls Tryz.prog 211 #[.pointer (some ⟨g, 4 * done.length, none⟩), .int .i32 r] w (MadePost w B g cap done 225 ⟨2, t.text, r - 48, t.place⟩) := by
 obtain ⟨hB, hg⟩ := toks_lt h
 obtain ⟨c1, _, c2, _, hf⟩ := last_cells h
 have hf1 := hf (4 * done.length)
 have hf2 := hf (4 * done.length + 2)
 have hd' : 48 ≤ r ∧ r ≤ 57 := by unfold digB at hd; simpa using hd
 obtain ⟨d, hrd⟩ : ∃ d, r = 48 + d := ⟨r - 48, by omega⟩
 have hd9 : d ≤ 9 := by omega
 have HR := Lib.hid (show (r : Int) = 48 + d by omega)
 have HM := Lib.hid (made_num (K := 225) (k := 2) (n := d) h)
 have HD := Lib.hid (show r - 48 = d by omega)
 clear h hf hd' hrd hd
 go_enter Tryz.func211, Tryz.ntmps211
 go_wp2_with fail
 go_region_with (go_at_call 224; ((with_reducible refine (ones_lx HR.out hd9 _).mono ?_); rintro e w1 ⟨rfl, rfl⟩))
 all_goals (go_wp2_with fail; go_ret; rw [HD.out]; exact HM.out)
end
end Go.Proofs.YtepdecnegihhhaaGreatDoor.lex
