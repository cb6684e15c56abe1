/- What changelingref07.Tokens answers: of every text. -/
import Derived.Test.YtffhmbiamkbchaaDoorLxV
import Derived.Deep.CutBlock
namespace Go.Proofs.YtffhmbiamkbchaaDoor.lex
set_option linter.unusedSimpArgs false
set_option linter.unusedVariables false
open Go.RowKit nam

theorem what_of {r c : Nat} (h : cls r = c) (hr : okR r) (w : World) : Calls Tryd.prog 46 #[.int .i32 r] w fun e w' => e = .returned (.int .i64 c) ∧ Below w.heap.size w w' := by
  subst h; exact what_any r hr w
/-- What holds at each round's head. -/
structure RefIn (s : ByteArray) (w1 : World) (u7 : Value) (wr : World) (i : Nat) (done : List Tok) : Prop where
  row : Toks wr w1.heap.size u7 done
  below : Below w1.heap.size w1 wr
  all : scan done none i ((rn s 0).drop i) = scan [] none 0 (rn s 0)
  few : done.length ≤ i
theorem RefIn.step {s : ByteArray} {w1 : World} {u7 : Value} {wr : World} {i r : Nat} {done : List Tok} (h : RefIn s w1 u7 wr i done) (hr : (rn s 0)[i]? = some r) : scan done none i (r :: (rn s 0).drop (i + 1)) = scan [] none 0 (rn s 0) := by
  have h2 := h.all
  obtain ⟨hlt, he⟩ := List.getElem?_eq_some_iff.1 hr
  rw [List.drop_eq_getElem_cons hlt, he] at h2
  exact h2
/-- The local token. -/
def TB (w : World) (b : Nat) (t : Tok) : Prop := w.heap[b]? = some (.cells #[.int .u8 t.kind, .string (textOf t.text), .int .i64 t.n, .int .i64 t.place] 75 (0, 0))
theorem TB.cells {w : World} {b : Nat} {t : Tok} (h : TB w b t) : w.cell? ⟨b, 0, none⟩ = some (.int .u8 t.kind) ∧ w.cell? ⟨b, 1, none⟩ = some (.string (textOf t.text)) ∧ w.cell? ⟨b, 2, none⟩ = some (.int .i64 t.n) ∧ w.cell? ⟨b, 3, none⟩ = some (.int .i64 t.place) ∧ (∀ j, w.frozen? ⟨b, j, none⟩ = false) :=
  ⟨cell_of_row w b 0 _ _ (0, 0) h, cell_of_row w b 1 _ _ (0, 0) h, cell_of_row w b 2 _ _ (0, 0) h, cell_of_row w b 3 _ _ (0, 0) h, fun j => frozen_of_row w b j _ _ h⟩
theorem TB.range {w : World} {b : Nat} {t : Tok} (h : TB w b t) : w.rangeAt b 0 (tokV t) := by
  obtain ⟨h0, h1, h2, h3, _⟩ := h.cells
  intro j v hj
  match j, hj with
  | 0, hj => rw [Nat.zero_add]; exact h0.trans hj
  | 1, hj => exact h1.trans hj
  | 2, hj => exact h2.trans hj
  | 3, hj => exact h3.trans hj
theorem TB.text {w : World} {b : Nat} {t : Tok} (h : TB w b t) (x : List Nat) : TB (w.setCell ⟨b, 1, none⟩ (.string (textOf x))) b ⟨t.kind, x, t.n, t.place⟩ :=
  heap_setCell_same w b 1 _ _ _ h
theorem TB.num {w : World} {b : Nat} {t : Tok} (h : TB w b t) (n : Nat) : TB (w.setCell ⟨b, 2, none⟩ (.int .i64 n)) b ⟨t.kind, t.text, n, t.place⟩ :=
  heap_setCell_same w b 2 _ _ _ h
theorem TB.lt {w : World} {b : Nat} {t : Tok} (h : TB w b t) : b < w.heap.size := (Array.getElem?_eq_some_iff.1 h).1
theorem TB.on {w w' : World} {b : Nat} {t : Tok} (h : TB w b t) (hb : Below w.heap.size w w') : TB w' b t := (hb.block b h.lt).trans h

theorem toks_mono {w : World} {B B' : Nat} {v : Value} {l : List Tok} (h : Toks w B v l) (hB : B' ≤ B) : Toks w B' v l := by
  refine ⟨h.1, ?_⟩
  rcases h.2 with h0 | ⟨g, cap, cur, hv, hb, rest⟩
  · exact .inl h0
  · exact .inr ⟨g, cap, cur, hv, Nat.le_trans hB hb, rest⟩
def seg (L : List Nat) (i en : Nat) : List Nat := (L.drop i).take (en - i)
theorem seg_nil (L : List Nat) (i : Nat) : seg L i i = [] := by unfold seg; simp
theorem seg_split (L : List Nat) {i en : Nat} (h : i ≤ en) : L.drop i = seg L i en ++ L.drop en := by
  unfold seg
  have e : L.drop en = (L.drop i).drop (en - i) := by rw [List.drop_drop]; congr 1; omega
  rw [e, List.take_append_drop]
theorem seg_len {L : List Nat} {i en : Nat} (h : en ≤ L.length) : (seg L i en).length = en - i := by unfold seg; simp; omega
theorem seg_snoc {L : List Nat} {i k r : Nat} (h : i ≤ k) (hr : L[k]? = some r) : seg L i (k + 1) = seg L i k ++ [r] := by
  unfold seg
  rw [show k + 1 - i = (k - i) + 1 by omega, List.take_add_one, List.getElem?_drop, show i + (k - i) = k by omega, hr]
  rfl
theorem seg_all {L : List Nat} {i en : Nat} {P : Nat → Prop} (h : ∀ j r, i ≤ j → j < en → L[j]? = some r → P r) : ∀ r ∈ seg L i en, P r := by
  intro r hr
  obtain ⟨j, hj⟩ := List.getElem?_of_mem hr
  unfold seg at hj
  rw [List.getElem?_take] at hj
  split at hj
  · rename_i hlt
    rw [List.getElem?_drop] at hj
    exact h (i + j) r (by omega) (by omega) hj
  · cases hj
theorem head_drop (L : List Nat) (en : Nat) : (L.drop en).head? = L[en]? := by rw [List.head?_eq_getElem?, List.getElem?_drop, Nat.add_zero]
/-- How far the runes of one kind go. -/
def EndRel (s : ByteArray) (i n c : Nat) (w3 : World) (u11 : Value) (wx : World) : Prop :=
  ∃ en, i < en ∧ en ≤ n ∧ u11 = .int .i64 (en : Nat) ∧ (∀ j r, i ≤ j → j < en → (rn s 0)[j]? = some r → cls r = c) ∧ Below w3.heap.size w3 wx
/-- The text so far. -/
def TextRel (s : ByteArray) (i en c tb : Nat) (w2 : World) (u15 : Value) (wy : World) : Prop :=
  ∃ k, i ≤ k ∧ k ≤ en ∧ u15 = .int .i64 (k : Nat) ∧ TB wy tb ⟨c, seg (rn s 0) i k, 0, i⟩ ∧ Below w2.heap.size w2 wy
theorem text_next {s : ByteArray} {i en c tb k r : Nat} {w2 wy : World} {u15 : Value} (hk : i ≤ k) (hke : k < en) (hr : (rn s 0)[k]? = some r) (ht : TB wy tb ⟨c, seg (rn s 0) i k, 0, i⟩) (hb : Below w2.heap.size w2 wy) (htb : w2.heap.size ≤ tb) (hu : u15 = .int .i64 (k + 1 : Nat)) :
    TextRel s i en c tb w2 u15 (wy.setCell ⟨tb, 1, none⟩ (.string (textOf (seg (rn s 0) i k) ++ Utf8.encode (r : Int)))).drew := by
  refine ⟨k + 1, by omega, by omega, hu, ?_, below_dr (hb.setCell htb _)⟩
  rw [textOf_snoc _ _ (rn_ok s 0 r (List.mem_of_getElem? hr)), ← seg_snoc hk hr]
  exact ht.text _
/-- A token more. -/
theorem ref_more {s : ByteArray} {w1 w2 wy w4 : World} {u7 v4 : Value} {i en : Nat} {done : List Tok} {t : Tok} {o : Obj} (hrow : Toks w2 w1.heap.size u7 done) (hb2 : Below w1.heap.size w1 w2) (hby : Below w2.heap.size w2 wy)
    (hg : (wy.alloc o).grownBy w4 u7.ownBlock) (h4 : w4.ownsRow w1.heap.size 75 4 v4 (done.length + 1) (flat done ++ tokV t)) (hall : scan (done ++ [t]) none en ((rn s 0).drop en) = scan [] none 0 (rn s 0)) (hfew : done.length ≤ i) (hie : i < en) :
    RefIn s w1 v4 w4 en (done ++ [t]) := by
  have s2 := hb2.size
  have sy := hby.size
  refine ⟨?_, ((hb2.trans (hby.mono s2)).alloc (by omega) o).grown hg (by simp; omega) (fun j hj => (hrow.lt j hj).1), hall, by rw [len_snoc]; omega⟩
  unfold Toks
  rw [flat_snoc, len_snoc]
  exact h4
theorem cell_four_at (w : World) (x y z u : Value) (t : TypeId) (b : Nat) (hb : b = w.heap.size) : ∀ j v, [x, y, z, u][j]? = some v → (w.alloc (.cells #[x, y, z, u] t)).cell? ((⟨b, 0, none⟩ : Addr).add j) = some v := by
  subst hb; exact cell_four_new w x y z u t
/-- The scan behind a name. -/
theorem ref_name {s : ByteArray} {i en : Nat} {done : List Tok} (hall : scan done none i ((rn s 0).drop i) = scan [] none 0 (rn s 0)) (hie : i < en) (hen : en ≤ (rn s 0).length) (hc : ∀ j r, i ≤ j → j < en → (rn s 0)[j]? = some r → cls r = 1) (hx : ∀ r, (rn s 0)[en]? = some r → cls r ≠ 1) :
    scan (done ++ [⟨1, seg (rn s 0) i en, 0, i⟩]) none en ((rn s 0).drop en) = scan [] none 0 (rn s 0) := by
  have hl := seg_len (i := i) hen
  have h := scan_name (done := done) (p := i) (xs := seg (rn s 0) i en) (rest := (rn s 0).drop en) (fun e => by rw [e] at hl; simp at hl; omega) (fun r hr => cls_1 (seg_all hc r hr)) (fun r hr => by
    rw [head_drop] at hr
    have := hx r hr
    cases hb : letB r with
    | false => rfl
    | true => exact absurd (cls_let hb) this)
  rw [← seg_split _ (by omega), hall, hl, show i + (en - i) = en by omega] at h
  exact h.symm
theorem ref_number {s : ByteArray} {i en : Nat} {done : List Tok} (hall : scan done none i ((rn s 0).drop i) = scan [] none 0 (rn s 0)) (hie : i < en) (hen : en ≤ (rn s 0).length) (hc : ∀ j r, i ≤ j → j < en → (rn s 0)[j]? = some r → cls r = 2) (hx : ∀ r, (rn s 0)[en]? = some r → cls r ≠ 2) (hv : val 0 (seg (rn s 0) i en) ≤ 9223372036854775807) :
    scan (done ++ [⟨2, [], val 0 (seg (rn s 0) i en), i⟩]) none en ((rn s 0).drop en) = scan [] none 0 (rn s 0) := by
  have hl := seg_len (i := i) hen
  have h := scan_number (done := done) (p := i) (xs := seg (rn s 0) i en) (rest := (rn s 0).drop en) (fun e => by rw [e] at hl; simp at hl; omega) (fun r hr => cls_2 (seg_all hc r hr)) hv (fun r hr => by
    rw [head_drop] at hr
    have := hx r hr
    cases hb : digB r with
    | false => rfl
    | true => exact absurd (cls_dig hb) this)
  rw [← seg_split _ (by omega), hall, hl, show i + (en - i) = en by omega] at h
  exact h.symm
theorem ref_toobig {s : ByteArray} {i en k r : Nat} {done : List Tok} (hall : scan done none i ((rn s 0).drop i) = scan [] none 0 (rn s 0)) (hik : i ≤ k) (hke : k < en) (hc : ∀ j r, i ≤ j → j < en → (rn s 0)[j]? = some r → cls r = 2) (hr : (rn s 0)[k]? = some r) (hv : val 0 (seg (rn s 0) i k) ≤ 9223372036854775807) (hb : ¬ 10 * val 0 (seg (rn s 0) i k) + (r - 48) ≤ 9223372036854775807) :
    scan [] none 0 (rn s 0) = ([], i, 71) := by
  obtain ⟨hlt, he⟩ := List.getElem?_eq_some_iff.1 hr
  rw [seg_split _ hik, List.drop_eq_getElem_cons hlt, he, scan_toobig (fun y hy => cls_2 (seg_all (fun j x h1 h2 h3 => hc j x h1 (by omega) h3) y hy)) (cls_2 (hc k r hik hke hr)) hv hb] at hall
  exact hall.symm
theorem ref_sign {s : ByteArray} {i r : Nat} {done : List Tok} (hall : scan done none i (r :: (rn s 0).drop (i + 1)) = scan [] none 0 (rn s 0)) (hr : (rn s 0)[i]? = some r) (hc : cls r = 3) (hx : ∀ r2, (rn s 0)[i + 1]? = some r2 → ¬ ((r = 33 ∨ r = 60) ∧ r2 = 61)) :
    scan (done ++ [⟨3, seg (rn s 0) i (i + 1), 0, i⟩]) none (i + 1) ((rn s 0).drop (i + 1)) = scan [] none 0 (rn s 0) := by
  rw [seg_snoc (Nat.le_refl i) hr, seg_nil, List.nil_append, ← hall]
  refine (scan_sign (cls_3 hc) (fun r2 h2 => ?_)).symm
  rw [head_drop] at h2
  have := hx r2 h2
  simp
  omega
theorem ref_sign2 {s : ByteArray} {i r : Nat} {done : List Tok} (hall : scan done none i (r :: (rn s 0).drop (i + 1)) = scan [] none 0 (rn s 0)) (hr : (rn s 0)[i]? = some r) (hr2 : (rn s 0)[i + 1]? = some 61) (h : r = 33 ∨ r = 60) :
    scan (done ++ [⟨3, seg (rn s 0) i (i + 2), 0, i⟩]) none (i + 2) ((rn s 0).drop (i + 2)) = scan [] none 0 (rn s 0) := by
  rw [seg_snoc (k := i + 1) (by omega) hr2, seg_snoc (Nat.le_refl i) hr, seg_nil, List.nil_append, ← hall]
  obtain ⟨hlt, he⟩ := List.getElem?_eq_some_iff.1 hr2
  rw [List.drop_eq_getElem_cons hlt, he]
  exact (scan_sign2 h).symm
/-- The number so far. -/
def NumRel (s : ByteArray) (i en : Nat) (u12 u13 : Value) : Prop :=
  ∃ k, i ≤ k ∧ k ≤ en ∧ u13 = .int .i64 (k : Nat) ∧ u12 = .int .u64 ((val 0 (seg (rn s 0) i k) : Nat) : Int) ∧ val 0 (seg (rn s 0) i k) ≤ 9223372036854775807
theorem num_next {s : ByteArray} {i en k d V : Nat} {u12 u13 : Value} (hk : i ≤ k) (hke : k < en) (hr : (rn s 0)[k]? = some (48 + d)) (hV : val 0 (seg (rn s 0) i k) = V) (hb : 10 * V + d ≤ 9223372036854775807) (hu : u12 = .int .u64 ((10 * V + d : Nat) : Int)) (hv : u13 = .int .i64 (k + 1 : Nat)) :
    NumRel s i en u12 u13 := by
  have e : val 0 (seg (rn s 0) i (k + 1)) = 10 * V + d := by
    rw [seg_snoc hk hr, val_app, hV, val_cons, val_nil, Nat.add_sub_cancel_left]
  exact ⟨k + 1, by omega, by omega, hv, by rw [e]; exact hu, by rw [e]; exact hb⟩
set_option maxRecDepth 1000000 in
theorem ref_long (s : ByteArray) (w : World) (hs : 400 < s.size) : Calls Tryd.prog 26 #[.string s] w (TokPost s w) := by
  go_enter Tryd.func26, Tryd.ntmps26
  go_wp2
  go_ret3
  exact tok_post (by unfold toksO; rw [if_pos hs]) (toks_nil _ _) (Below.refl _ _)

set_option maxHeartbeats 8000000 in
set_option maxRecDepth 1000000 in
theorem ref_any (s : ByteArray) (w : World) : Calls Tryd.prog 26 #[.string s] w (TokPost s w) := by
  by_cases h400 : 400 < s.size
  · exact ref_long s w h400
  obtain ⟨i0, hi0, hz0, hz1, hz2⟩ := info_parts infoTok
  have hO : toksO s = scan [] none 0 (rn s 0) := by unfold toksO; rw [if_neg h400]
  have HO := Lib.hid hO; clear hO
  have hrl := runesAt_length s 0
  have hrn := rn_len s
  go_enter Tryd.func26, Tryd.ntmps26
  go_wp2_with fail
  refine (runes_read s _ (by omega)).mono ?_
  rintro e w1 ⟨a1, c1, a2, c2, rfl, hb, hc⟩
  obtain ⟨n, hn⟩ : ∃ n, (runesAt s 0).length = n := ⟨_, rfl⟩
  rw [hn] at hrl hrn hc ⊢
  have hcell : 0 < n → ∃ g1, a1 = some ⟨g1, 0, none⟩ ∧ g1 < w1.heap.size ∧ ∀ (k r : Nat), (rn s 0)[k]? = some r → w1.cell? ⟨g1, k, none⟩ = some (.int .i32 r) := fun h0 => by
    obtain ⟨g1, g2, e1, _, hl, _, hcc⟩ := hc h0
    refine ⟨g1, e1, hl, fun k r hr => ?_⟩
    unfold rn at hr
    rw [List.getElem?_map, Option.map_eq_some_iff] at hr
    obtain ⟨x, hx, rfl⟩ := hr
    exact (hcc k x hx).1
  have HCL := Lib.hid hcell
  have HB := Lib.hid hb
  have HRN := Lib.hid hrn
  clear hb hc hn hcell hrn
  go_wp2_with fail
  go_loopw [7, 8] (fun u7 u8 wr => ∃ i done, i ≤ n ∧ u8 = .int .i64 (i : Nat) ∧ RefIn s w1 u7 wr i done) (fun _ u8 _ => n - (intOf u8).toNat)
  case atStart => exact ⟨0, [], by omega, rfl, toks_nil _ _, Below.refl _ _, rfl, Nat.le_refl _⟩
  case round =>
    obtain ⟨i, done, hi, rfl, HR0⟩ := hrel
    have HR := Lib.hid HR0
    clear HR0
    by_cases hlt : i < n
    · obtain ⟨g1, rfl, hg1, hcs⟩ := HCL.out (by omega)
      obtain ⟨r, hr⟩ : ∃ r, (rn s 0)[i]? = some r := ⟨_, List.getElem?_eq_getElem (by have := HRN.out; omega)⟩
      have hok := rn_ok s 0 r (List.mem_of_getElem? hr)
      have HCS := Lib.hid hcs
      have hci : wr.cell? ⟨g1, i, none⟩ = some (.int .i32 r) := by rw [HR.out.below.cell (p := ⟨g1, i, none⟩) hg1]; exact hcs i r hr
      have HRR := Lib.hid hr
      have hi1 : (i : Int) + 1 ≤ 9223372036854775807 := by omega
      clear hcs hr
      rcases (show cls r = 0 ∨ cls r = 4 ∨ cls r = 1 ∨ cls r = 2 ∨ cls r = 3 by have := cls_le r; omega) with h | h | h | h | h
      · have HC := Lib.hid h; clear h
        go_wp2_with fail
        refine (what_of HC.out hok _).mono ?_
        rintro e w2 ⟨rfl, hb2⟩
        have HB2 := Lib.hid (HR.out.below.trans (hb2.mono HR.out.below.size)); clear hb2
        go_wp2_with fail
        go_ret3
        obtain ⟨k1, k2⟩ := cls_0 (p := i) HC.out
        exact tok_post (HO.out.trans (HR.out.step HRR.out |>.symm.trans (scan_bad rfl k1 k2))) (toks_nil _ _) (HB.out.trans (HB2.out.mono HB.out.size))
      · have HC := Lib.hid h; clear h
        go_wp2_with fail
        refine (what_of HC.out hok _).mono ?_
        rintro e w2 ⟨rfl, hb2⟩
        have HN : Hid (RefIn s w1 u7 w2 (i + 1) done) := Lib.hid ⟨toks_below HR.out.row hb2, HR.out.below.trans (hb2.mono HR.out.below.size), by
          have h2 := HR.out.step HRR.out
          rw [scan_blank rfl (cls_4 HC.out)] at h2
          simpa using h2, Nat.le_succ_of_le HR.out.few⟩
        clear hb2
        go_wp2_with fail
        go_roundw
        case rel => exact ⟨i + 1, done, by omega, by go_num, HN.out⟩
        case measure => simp [intOf]; omega
      · have HC := Lib.hid h; clear h
        go_wp2_with fail
        refine (what_of HC.out hok _).mono ?_
        rintro e w2 ⟨rfl, hb2⟩
        have HB2 := Lib.hid hb2
        clear hb2
        have HROW2 := Lib.hid (toks_below HR.out.row HB2.out)
        have HW2 := Lib.hid (HR.out.below.trans (HB2.out.mono HR.out.below.size))
        have hg12 : g1 < w2.heap.size := by have := HW2.out.size; omega
        have hfew : done.length ≤ i := HR.out.few
        go_wp2_with fail
        have HT3 : Hid (TB (w2.alloc (.cells #[.int .u8 1, .string ⟨#[]⟩, .int .i64 0, .int .i64 i] 75)) w2.heap.size ⟨1, [], 0, i⟩) := heap_alloc_new w2 _
        have HB3 : Hid (Below w2.heap.size w2 (w2.alloc (.cells #[.int .u8 1, .string ⟨#[]⟩, .int .i64 0, .int .i64 i] 75))) := (Below.refl _ w2).alloc (Nat.le_refl _) _
        generalize w2.alloc (.cells #[.int .u8 1, .string ⟨#[]⟩, .int .i64 0, .int .i64 i] 75) = w3 at HT3 HB3 ⊢

        go_loopw [11] (fun u11 wx => EndRel s i n 1 w3 u11 wx) (fun u11 _ => n - (intOf u11).toNat)
        case atStart => exact ⟨i + 1, by omega, by omega, by go_num, fun j r' h1 h2 h3 => (by
          obtain rfl : j = i := by omega
          rw [HRR.out] at h3; cases h3; exact HC.out), Below.refl _ _⟩
        case round =>
          rename World => wx
          obtain ⟨en, hie, hen, rfl, hall, hbx⟩ := hrel
          have HA := Lib.hid hall; have HBX := Lib.hid hbx
          have HB23 := Lib.hid (HB3.out.trans (hbx.mono HB3.out.size))
          clear hall hbx
          by_cases hlt2 : en < n
          · obtain ⟨r2, hr2⟩ : ∃ r, (rn s 0)[en]? = some r := ⟨_, List.getElem?_eq_getElem (by have := HRN.out; omega)⟩
            have hok2 := rn_ok s 0 r2 (List.mem_of_getElem? hr2)
            have hc2 : wx.cell? ⟨g1, en, none⟩ = some (.int .i32 r2) := by rw [HB23.out.cell (p := ⟨g1, en, none⟩) hg12, HW2.out.cell (p := ⟨g1, en, none⟩) hg1]; exact HCS.out en r2 hr2
            have hen1 : (en : Int) + 1 ≤ 9223372036854775807 := by omega
            have HR2 := Lib.hid hr2; clear hr2
            by_cases hc1 : cls r2 = 1
            · have HC1 := Lib.hid hc1; clear hc1
              go_wp2_with fail
              refine (what_of HC1.out hok2 _).mono ?_
              rintro e w5 ⟨rfl, hb5⟩
              have HB5 := Lib.hid (HBX.out.trans (hb5.mono HBX.out.size)); clear hb5
              go_wp2_with fail
              go_roundw
              case rel => exact ⟨en + 1, by omega, by omega, by go_num, fun j r' h1 h2 h3 => (by
                rcases Nat.lt_or_ge j en with h | h
                · exact HA.out j r' h1 h h3
                · obtain rfl : j = en := by omega
                  rw [HR2.out] at h3; cases h3; exact HC1.out), HB5.out⟩
              case measure => simp [intOf]; omega
            · have hq : ((cls r2 : Int) == 1) = false := by simp; omega
              have HNX : Hid (∀ r', (rn s 0)[en]? = some r' → cls r' ≠ 1) := Lib.hid (fun r' h => by rw [HR2.out] at h; cases h; exact hc1)
              clear hc1
              go_wp2_with fail
              refine (what_any r2 hok2 _).mono ?_
              rintro e w5 ⟨rfl, hb5⟩
              have HB5 := Lib.hid (HBX.out.trans (hb5.mono HBX.out.size)); clear hb5
              go_wp2_with fail
              have HT5 := Lib.hid (HT3.out.on HB5.out)
              have HB25 := Lib.hid (HB3.out.trans (HB5.out.mono HB3.out.size))
              go_loopw [15] (fun u15 wy => TextRel s i en 1 w2.heap.size w2 u15 wy) (fun u15 _ => en - (intOf u15).toNat)
              case atStart => exact ⟨i, Nat.le_refl _, by omega, rfl, by rw [seg_nil]; exact HT5.out, HB25.out⟩
              case round =>
                rename World => wy
                obtain ⟨k, hik, hke, rfl, htb, hby⟩ := hrel
                by_cases hk : k < en
                · obtain ⟨r3, hr3⟩ : ∃ r, (rn s 0)[k]? = some r := ⟨_, List.getElem?_eq_getElem (by have := HRN.out; omega)⟩
                  have hc3 : wy.cell? ⟨g1, k, none⟩ = some (.int .i32 r3) := by rw [hby.cell (p := ⟨g1, k, none⟩) hg12, HW2.out.cell (p := ⟨g1, k, none⟩) hg1]; exact HCS.out k r3 hr3
                  obtain ⟨_, t1, _, _, tf⟩ := htb.cells
                  have tf1 := tf 1
                  have hz1 := textOf_bound (seg (rn s 0) i k) 1000 (by rw [seg_len (by have := HRN.out; omega)]; omega)
                  have hz2 : (Utf8.encode (r3 : Int)).size ≤ 4 := by rw [textOf_one r3 (rn_ok s 0 r3 (List.mem_of_getElem? hr3))]; exact textOf_bound [r3] 1 (by simp)
                  have hk1 : (k : Int) + 1 ≤ 9223372036854775807 := by omega
                  have HN := Lib.hid (fun (u : Value) (hu : u = .int .i64 (k + 1 : Nat)) => text_next hik hk hr3 htb hby (Nat.le_refl _) hu)
                  clear tf hr3 htb hby
                  go_wp2_with fail
                  go_region
                  all_goals
                    go_wp2_with fail
                    go_roundw
                    case rel => exact HN.out _ (by go_num)
                    case measure => simp [intOf]; omega
                · obtain rfl : k = en := by omega
                  have hnk : ¬ (k : Int) < (k : Int) := by omega
                  obtain ⟨en, rfl⟩ : ∃ en, en = k := ⟨_, rfl⟩
                  have hrg : wy.rangeAt w2.heap.size 0 [.int .u8 1, .string (textOf (seg (rn s 0) i en)), .int .i64 0, .int .i64 i] := htb.range
                  have HRG := Lib.hid hrg
                  have hrow : wy.ownsRow w1.heap.size 75 4 u7 done.length (flat done) := toks_below HROW2.out hby
                  have HROW := Lib.hid hrow
                  have HBY := Lib.hid hby
                  have HSZ : Hid (∀ o, w1.heap.size ≤ (wy.alloc o).heap.size) := Lib.hid (fun o => by rw [World.size_alloc]; have := hby.size; have := HW2.out.size; omega)
                  clear hrg hrow hby htb
                  go_wp2_with (first | (refine wpList_load_mid rfl 75 (.tmp 10) rfl w2.heap.size 0 rfl [.int .u8 1, .string (textOf (seg (rn s 0) i en)), .int .i64 0, .int .i64 i] _ HRG.out Tryd.underlying75 rfl infoTok4 ?_) | (at_builtin; refine wpList_append_own _ rfl (.tmp 132) (.tmp 134) 54 rfl w1.heap.size 75 i0 (.agg #[.int .u8 0, .string ⟨#[]⟩, .int .i64 0, .int .i64 0]) 4 40 Tryd.underlying54 hi0 hz0 hz1 hz2 rfl (by decide) _ _ _ rfl (HROW.out.alloc _) ⟨_, 0, none⟩ 1 1 [.int .u8 1, .string (textOf (seg (rn s 0) i en)), .int .i64 0, .int .i64 i] rfl rfl (cell_four_at _ _ _ _ _ _ _ (by simp)) (by simp [Value.oneCell']) (by unfold maxLen; omega) (by omega) (HSZ.out _) ?_))
                  intro v4 w4 k4 g4 _
                  have HF := Lib.hid (ref_more (t := ⟨1, seg (rn s 0) i en, 0, i⟩) HROW2.out HW2.out HBY.out g4 k4 (ref_name HR.out.all hie (by have := HRN.out; omega) HA.out HNX.out) hfew hie)
                  clear k4 g4
                  go_wp2_with fail
                  go_roundw
                  case rel => exact ⟨en, _, by omega, by first | go_num | (congr 1; omega), HF.out⟩
                  case measure => simp [intOf]; omega
          · have hnn : ¬ (en : Int) < (n : Int) := by omega
            have HNX : Hid (∀ r', (rn s 0)[en]? = some r' → cls r' ≠ 1) := Lib.hid (fun r' h => by
              have h2 := (List.getElem?_eq_some_iff.1 h).1
              have := HRN.out
              omega)
            go_wp2_with fail
            obtain ⟨w5, rfl⟩ : ∃ w5, w5 = wx := ⟨_, rfl⟩
            have HB5 := HBX
            have HT5 := Lib.hid (HT3.out.on HB5.out)
            have HB25 := Lib.hid (HB3.out.trans (HB5.out.mono HB3.out.size))
            go_loopw [15] (fun u15 wy => TextRel s i en 1 w2.heap.size w2 u15 wy) (fun u15 _ => en - (intOf u15).toNat)
            case atStart => exact ⟨i, Nat.le_refl _, by omega, rfl, by rw [seg_nil]; exact HT5.out, HB25.out⟩
            case round =>
              rename World => wy
              obtain ⟨k, hik, hke, rfl, htb, hby⟩ := hrel
              by_cases hk : k < en
              · obtain ⟨r3, hr3⟩ : ∃ r, (rn s 0)[k]? = some r := ⟨_, List.getElem?_eq_getElem (by have := HRN.out; omega)⟩
                have hc3 : wy.cell? ⟨g1, k, none⟩ = some (.int .i32 r3) := by rw [hby.cell (p := ⟨g1, k, none⟩) hg12, HW2.out.cell (p := ⟨g1, k, none⟩) hg1]; exact HCS.out k r3 hr3
                obtain ⟨_, t1, _, _, tf⟩ := htb.cells
                have tf1 := tf 1
                have hz1 := textOf_bound (seg (rn s 0) i k) 1000 (by rw [seg_len (by have := HRN.out; omega)]; omega)
                have hz2 : (Utf8.encode (r3 : Int)).size ≤ 4 := by rw [textOf_one r3 (rn_ok s 0 r3 (List.mem_of_getElem? hr3))]; exact textOf_bound [r3] 1 (by simp)
                have hk1 : (k : Int) + 1 ≤ 9223372036854775807 := by omega
                have HN := Lib.hid (fun (u : Value) (hu : u = .int .i64 (k + 1 : Nat)) => text_next hik hk hr3 htb hby (Nat.le_refl _) hu)
                clear tf hr3 htb hby
                go_wp2_with fail
                go_region
                all_goals
                  go_wp2_with fail
                  go_roundw
                  case rel => exact HN.out _ (by go_num)
                  case measure => simp [intOf]; omega
              · obtain rfl : k = en := by omega
                have hnk : ¬ (k : Int) < (k : Int) := by omega
                obtain ⟨en, rfl⟩ : ∃ en, en = k := ⟨_, rfl⟩
                have hrg : wy.rangeAt w2.heap.size 0 [.int .u8 1, .string (textOf (seg (rn s 0) i en)), .int .i64 0, .int .i64 i] := htb.range
                have HRG := Lib.hid hrg
                have hrow : wy.ownsRow w1.heap.size 75 4 u7 done.length (flat done) := toks_below HROW2.out hby
                have HROW := Lib.hid hrow
                have HBY := Lib.hid hby
                have HSZ : Hid (∀ o, w1.heap.size ≤ (wy.alloc o).heap.size) := Lib.hid (fun o => by rw [World.size_alloc]; have := hby.size; have := HW2.out.size; omega)
                clear hrg hrow hby htb
                go_wp2_with (first | (refine wpList_load_mid rfl 75 (.tmp 10) rfl w2.heap.size 0 rfl [.int .u8 1, .string (textOf (seg (rn s 0) i en)), .int .i64 0, .int .i64 i] _ HRG.out Tryd.underlying75 rfl infoTok4 ?_) | (at_builtin; refine wpList_append_own _ rfl (.tmp 132) (.tmp 134) 54 rfl w1.heap.size 75 i0 (.agg #[.int .u8 0, .string ⟨#[]⟩, .int .i64 0, .int .i64 0]) 4 40 Tryd.underlying54 hi0 hz0 hz1 hz2 rfl (by decide) _ _ _ rfl (HROW.out.alloc _) ⟨_, 0, none⟩ 1 1 [.int .u8 1, .string (textOf (seg (rn s 0) i en)), .int .i64 0, .int .i64 i] rfl rfl (cell_four_at _ _ _ _ _ _ _ (by simp)) (by simp [Value.oneCell']) (by unfold maxLen; omega) (by omega) (HSZ.out _) ?_))
                intro v4 w4 k4 g4 _
                have HF := Lib.hid (ref_more (t := ⟨1, seg (rn s 0) i en, 0, i⟩) HROW2.out HW2.out HBY.out g4 k4 (ref_name HR.out.all hie (by have := HRN.out; omega) HA.out HNX.out) hfew hie)
                clear k4 g4
                go_wp2_with fail
                go_roundw
                case rel => exact ⟨en, _, by omega, by first | go_num | (congr 1; omega), HF.out⟩
                case measure => simp [intOf]; omega
      · have HC := Lib.hid h; clear h
        go_wp2_with fail
        refine (what_of HC.out hok _).mono ?_
        rintro e w2 ⟨rfl, hb2⟩
        have HB2 := Lib.hid hb2
        clear hb2
        have HROW2 := Lib.hid (toks_below HR.out.row HB2.out)
        have HW2 := Lib.hid (HR.out.below.trans (HB2.out.mono HR.out.below.size))
        have hg12 : g1 < w2.heap.size := by have := HW2.out.size; omega
        have hfew : done.length ≤ i := HR.out.few
        go_wp2_with fail
        have HT3 : Hid (TB (w2.alloc (.cells #[.int .u8 2, .string ⟨#[]⟩, .int .i64 0, .int .i64 i] 75)) w2.heap.size ⟨2, [], 0, i⟩) := heap_alloc_new w2 _
        have HB3 : Hid (Below w2.heap.size w2 (w2.alloc (.cells #[.int .u8 2, .string ⟨#[]⟩, .int .i64 0, .int .i64 i] 75))) := (Below.refl _ w2).alloc (Nat.le_refl _) _
        generalize w2.alloc (.cells #[.int .u8 2, .string ⟨#[]⟩, .int .i64 0, .int .i64 i] 75) = w3 at HT3 HB3 ⊢

        go_loopw [11] (fun u11 wx => EndRel s i n 2 w3 u11 wx) (fun u11 _ => n - (intOf u11).toNat)
        case atStart => exact ⟨i + 1, by omega, by omega, by go_num, fun j r' h1 h2 h3 => (by
          obtain rfl : j = i := by omega
          rw [HRR.out] at h3; cases h3; exact HC.out), Below.refl _ _⟩
        case round =>
          rename World => wx
          obtain ⟨en, hie, hen, rfl, hall, hbx⟩ := hrel
          have HA := Lib.hid hall; have HBX := Lib.hid hbx
          have HB23 := Lib.hid (HB3.out.trans (hbx.mono HB3.out.size))
          clear hall hbx
          by_cases hlt2 : en < n
          · obtain ⟨r2, hr2⟩ : ∃ r, (rn s 0)[en]? = some r := ⟨_, List.getElem?_eq_getElem (by have := HRN.out; omega)⟩
            have hok2 := rn_ok s 0 r2 (List.mem_of_getElem? hr2)
            have hc2 : wx.cell? ⟨g1, en, none⟩ = some (.int .i32 r2) := by rw [HB23.out.cell (p := ⟨g1, en, none⟩) hg12, HW2.out.cell (p := ⟨g1, en, none⟩) hg1]; exact HCS.out en r2 hr2
            have hen1 : (en : Int) + 1 ≤ 9223372036854775807 := by omega
            have HR2 := Lib.hid hr2; clear hr2
            by_cases hc1 : cls r2 = 2
            · have HC1 := Lib.hid hc1; clear hc1
              go_wp2_with fail
              refine (what_of HC1.out hok2 _).mono ?_
              rintro e w5 ⟨rfl, hb5⟩
              have HB5 := Lib.hid (HBX.out.trans (hb5.mono HBX.out.size)); clear hb5
              go_wp2_with fail
              go_roundw
              case rel => exact ⟨en + 1, by omega, by omega, by go_num, fun j r' h1 h2 h3 => (by
                rcases Nat.lt_or_ge j en with h | h
                · exact HA.out j r' h1 h h3
                · obtain rfl : j = en := by omega
                  rw [HR2.out] at h3; cases h3; exact HC1.out), HB5.out⟩
              case measure => simp [intOf]; omega
            · have hq : ((cls r2 : Int) == 2) = false := by simp; omega
              have HNX : Hid (∀ r', (rn s 0)[en]? = some r' → cls r' ≠ 2) := Lib.hid (fun r' h => by rw [HR2.out] at h; cases h; exact hc1)
              clear hc1
              go_wp2_with fail
              refine (what_any r2 hok2 _).mono ?_
              rintro e w5 ⟨rfl, hb5⟩
              have HB5 := Lib.hid (HBX.out.trans (hb5.mono HBX.out.size)); clear hb5
              go_wp2_with fail
              have HT5 := Lib.hid (HT3.out.on HB5.out)
              have HB25 := Lib.hid (HB3.out.trans (HB5.out.mono HB3.out.size))
              go_loop [12, 13] (fun u12 u13 => NumRel s i en u12 u13) (fun _ u13 => en - (intOf u13).toNat)
              case atStart => exact ⟨i, Nat.le_refl _, by omega, rfl, by rw [seg_nil, val_nil]; rfl, by rw [seg_nil, val_nil]; omega⟩
              case round =>
                obtain ⟨k, hik, hke, rfl, rfl, hv⟩ := hrel
                obtain ⟨V, hV⟩ : ∃ V, val 0 (seg (rn s 0) i k) = V := ⟨_, rfl⟩
                rw [hV] at hv ⊢
                have HV := Lib.hid hV; clear hV
                by_cases hk : k < en
                · obtain ⟨r3, hr3⟩ : ∃ r, (rn s 0)[k]? = some r := ⟨_, List.getElem?_eq_getElem (by have := HRN.out; omega)⟩
                  have hc3 : w5.cell? ⟨g1, k, none⟩ = some (.int .i32 r3) := by rw [HB25.out.cell (p := ⟨g1, k, none⟩) hg12, HW2.out.cell (p := ⟨g1, k, none⟩) hg1]; exact HCS.out k r3 hr3
                  have hdr := dig_range (cls_2 (HA.out k r3 hik hk hr3))
                  obtain ⟨d, hd⟩ : ∃ d, r3 = 48 + d := ⟨r3 - 48, by omega⟩
                  have hd9 : (d : Int) ≤ 9 := by omega
                  have hk1 : (k : Int) + 1 ≤ 9223372036854775807 := by omega
                  have HR3 := Lib.hid hr3
                  subst hd
                  clear hr3 hdr
                  have hV1 : (V : Int) ≤ 9223372036854775807 := by omega
                  have wA : IntKind.i32.wrap (48 + (d : Int) - 48) = d := by rw [show 48 + (d : Int) - 48 = d by omega]; exact IntWalk.i32_in _ (by omega)
                  have wB : IntKind.u64.wrap (d : Int) = d := IntWalk.u64_in _ (by omega)
                  obtain ⟨Q0, e0⟩ : ∃ Q0 : Int, (9223372036854775807 : Int) - d = Q0 := ⟨_, rfl⟩
                  have wC : IntKind.u64.wrap Q0 = Q0 := IntWalk.u64_in _ (by omega)
                  obtain ⟨Q1, e1⟩ : ∃ Q1 : Int, Q0.tdiv 10 = Q1 := ⟨_, rfl⟩
                  have e1' : Q1 = ((9223372036854775807 : Int) - d) / 10 := by rw [← e1, ← e0, Int.tdiv_eq_ediv_of_nonneg (by omega)]
                  have wD : IntKind.u64.wrap Q1 = Q1 := IntWalk.u64_in _ (by omega)
                  by_cases hbig : 10 * V + d ≤ 9223372036854775807
                  · have hq : decide (Q1 < (V : Int)) = false := by simp; omega
                    obtain ⟨T0, f0⟩ : ∃ T0 : Int, (10 : Int) * V = T0 := ⟨_, rfl⟩
                    obtain ⟨T1, f1⟩ : ∃ T1 : Int, T0 + (d : Int) = T1 := ⟨_, rfl⟩
                    have wE : IntKind.u64.wrap T0 = T0 := IntWalk.u64_in _ (by omega)
                    have wF : IntKind.u64.wrap T1 = T1 := IntWalk.u64_in _ (by omega)
                    have HT1 : Hid (T1 = ((10 * V + d : Nat) : Int)) := Lib.hid (by omega)
                    have HN := Lib.hid (fun (u v : Value) (hu : u = .int .u64 ((10 * V + d : Nat) : Int)) (hv2 : v = .int .i64 (k + 1 : Nat)) => num_next hik hk HR3.out HV.out hbig hu hv2)
                    clear hbig hv hV1 e1'
                    go_wp2_with fail
                    go_round
                    case rel => exact HN.out _ _ (by rw [HT1.out]) (by go_num)
                    case measure => simp [intOf]; omega
                  · have hq : decide (Q1 < (V : Int)) = true := by simp; omega
                    have HBIG := Lib.hid (ref_toobig HR.out.all hik hk HA.out HR3.out (by rw [HV.out]; exact hv) (by rw [HV.out, Nat.add_sub_cancel_left]; exact hbig))
                    clear hbig hv hV1 e1'
                    go_wp2_with fail
                    go_ret3
                    exact tok_post (HO.out.trans HBIG.out) (toks_nil _ _) (HB.out.trans ((HW2.out.trans (HB25.out.mono HW2.out.size)).mono HB.out.size))
                · obtain rfl : k = en := by omega
                  have hnk : ¬ (k : Int) < (k : Int) := by omega
                  obtain ⟨en, rfl⟩ : ∃ en, en = k := ⟨_, rfl⟩
                  have wG : IntKind.i64.wrap (V : Int) = V := IntWalk.i64_in _ (by omega)
                  have htb := HT5.out.num V
                  have hby : Below w2.heap.size w2 (w5.setCell ⟨w2.heap.size, 2, none⟩ (.int .i64 V)) := HB25.out.setCell (Nat.le_refl _) _
                  obtain ⟨_, _, t2, _, tf⟩ := HT5.out.cells
                  have tf2 := tf 2
                  have HSC := Lib.hid (ref_number HR.out.all hie (by have := HRN.out; omega) HA.out HNX.out (by rw [HV.out]; exact hv))
                  rw [HV.out] at HSC
                  clear tf hv
                  have hrg : (w5.setCell ⟨w2.heap.size, 2, none⟩ (.int .i64 V)).rangeAt w2.heap.size 0 [.int .u8 2, .string ⟨#[]⟩, .int .i64 V, .int .i64 i] := htb.range
                  have HRG := Lib.hid hrg
                  have hrow : (w5.setCell ⟨w2.heap.size, 2, none⟩ (.int .i64 V)).ownsRow w1.heap.size 75 4 u7 done.length (flat done) := toks_below HROW2.out hby
                  have HROW := Lib.hid hrow
                  have HBY := Lib.hid hby
                  have HSZ : Hid (∀ o, w1.heap.size ≤ ((w5.setCell ⟨w2.heap.size, 2, none⟩ (.int .i64 V)).alloc o).heap.size) := Lib.hid (fun o => by rw [World.size_alloc]; have := hby.size; have := HW2.out.size; omega)
                  clear hrg hrow hby htb
                  go_wp2_with (first | (refine wpList_load_mid rfl 75 (.tmp 10) rfl w2.heap.size 0 rfl [.int .u8 2, .string ⟨#[]⟩, .int .i64 V, .int .i64 i] _ HRG.out Tryd.underlying75 rfl infoTok4 ?_) | (at_builtin; refine wpList_append_own _ rfl (.tmp 132) (.tmp 134) 54 rfl w1.heap.size 75 i0 (.agg #[.int .u8 0, .string ⟨#[]⟩, .int .i64 0, .int .i64 0]) 4 40 Tryd.underlying54 hi0 hz0 hz1 hz2 rfl (by decide) _ _ _ rfl (HROW.out.alloc _) ⟨_, 0, none⟩ 1 1 [.int .u8 2, .string ⟨#[]⟩, .int .i64 V, .int .i64 i] rfl rfl (cell_four_at _ _ _ _ _ _ _ (by simp)) (by simp [Value.oneCell']) (by unfold maxLen; omega) (by omega) (HSZ.out _) ?_))
                  intro v4 w4 k4 g4 _
                  have HF := Lib.hid (ref_more (t := ⟨2, [], V, i⟩) HROW2.out HW2.out HBY.out g4 k4 (HSC.out) hfew hie)
                  clear k4 g4
                  go_wp2_with fail
                  go_roundw
                  case rel => exact ⟨en, _, by omega, by first | go_num | (congr 1; omega), HF.out⟩
                  case measure => simp [intOf]; omega
          · have hnn : ¬ (en : Int) < (n : Int) := by omega
            have HNX : Hid (∀ r', (rn s 0)[en]? = some r' → cls r' ≠ 2) := Lib.hid (fun r' h => by
              have h2 := (List.getElem?_eq_some_iff.1 h).1
              have := HRN.out
              omega)
            go_wp2_with fail
            obtain ⟨w5, rfl⟩ : ∃ w5, w5 = wx := ⟨_, rfl⟩
            have HB5 := HBX
            have HT5 := Lib.hid (HT3.out.on HB5.out)
            have HB25 := Lib.hid (HB3.out.trans (HB5.out.mono HB3.out.size))
            go_loop [12, 13] (fun u12 u13 => NumRel s i en u12 u13) (fun _ u13 => en - (intOf u13).toNat)
            case atStart => exact ⟨i, Nat.le_refl _, by omega, rfl, by rw [seg_nil, val_nil]; rfl, by rw [seg_nil, val_nil]; omega⟩
            case round =>
              obtain ⟨k, hik, hke, rfl, rfl, hv⟩ := hrel
              obtain ⟨V, hV⟩ : ∃ V, val 0 (seg (rn s 0) i k) = V := ⟨_, rfl⟩
              rw [hV] at hv ⊢
              have HV := Lib.hid hV; clear hV
              by_cases hk : k < en
              · obtain ⟨r3, hr3⟩ : ∃ r, (rn s 0)[k]? = some r := ⟨_, List.getElem?_eq_getElem (by have := HRN.out; omega)⟩
                have hc3 : w5.cell? ⟨g1, k, none⟩ = some (.int .i32 r3) := by rw [HB25.out.cell (p := ⟨g1, k, none⟩) hg12, HW2.out.cell (p := ⟨g1, k, none⟩) hg1]; exact HCS.out k r3 hr3
                have hdr := dig_range (cls_2 (HA.out k r3 hik hk hr3))
                obtain ⟨d, hd⟩ : ∃ d, r3 = 48 + d := ⟨r3 - 48, by omega⟩
                have hd9 : (d : Int) ≤ 9 := by omega
                have hk1 : (k : Int) + 1 ≤ 9223372036854775807 := by omega
                have HR3 := Lib.hid hr3
                subst hd
                clear hr3 hdr
                have hV1 : (V : Int) ≤ 9223372036854775807 := by omega
                have wA : IntKind.i32.wrap (48 + (d : Int) - 48) = d := by rw [show 48 + (d : Int) - 48 = d by omega]; exact IntWalk.i32_in _ (by omega)
                have wB : IntKind.u64.wrap (d : Int) = d := IntWalk.u64_in _ (by omega)
                obtain ⟨Q0, e0⟩ : ∃ Q0 : Int, (9223372036854775807 : Int) - d = Q0 := ⟨_, rfl⟩
                have wC : IntKind.u64.wrap Q0 = Q0 := IntWalk.u64_in _ (by omega)
                obtain ⟨Q1, e1⟩ : ∃ Q1 : Int, Q0.tdiv 10 = Q1 := ⟨_, rfl⟩
                have e1' : Q1 = ((9223372036854775807 : Int) - d) / 10 := by rw [← e1, ← e0, Int.tdiv_eq_ediv_of_nonneg (by omega)]
                have wD : IntKind.u64.wrap Q1 = Q1 := IntWalk.u64_in _ (by omega)
                by_cases hbig : 10 * V + d ≤ 9223372036854775807
                · have hq : decide (Q1 < (V : Int)) = false := by simp; omega
                  obtain ⟨T0, f0⟩ : ∃ T0 : Int, (10 : Int) * V = T0 := ⟨_, rfl⟩
                  obtain ⟨T1, f1⟩ : ∃ T1 : Int, T0 + (d : Int) = T1 := ⟨_, rfl⟩
                  have wE : IntKind.u64.wrap T0 = T0 := IntWalk.u64_in _ (by omega)
                  have wF : IntKind.u64.wrap T1 = T1 := IntWalk.u64_in _ (by omega)
                  have HT1 : Hid (T1 = ((10 * V + d : Nat) : Int)) := Lib.hid (by omega)
                  have HN := Lib.hid (fun (u v : Value) (hu : u = .int .u64 ((10 * V + d : Nat) : Int)) (hv2 : v = .int .i64 (k + 1 : Nat)) => num_next hik hk HR3.out HV.out hbig hu hv2)
                  clear hbig hv hV1 e1'
                  go_wp2_with fail
                  go_round
                  case rel => exact HN.out _ _ (by rw [HT1.out]) (by go_num)
                  case measure => simp [intOf]; omega
                · have hq : decide (Q1 < (V : Int)) = true := by simp; omega
                  have HBIG := Lib.hid (ref_toobig HR.out.all hik hk HA.out HR3.out (by rw [HV.out]; exact hv) (by rw [HV.out, Nat.add_sub_cancel_left]; exact hbig))
                  clear hbig hv hV1 e1'
                  go_wp2_with fail
                  go_ret3
                  exact tok_post (HO.out.trans HBIG.out) (toks_nil _ _) (HB.out.trans ((HW2.out.trans (HB25.out.mono HW2.out.size)).mono HB.out.size))
              · obtain rfl : k = en := by omega
                have hnk : ¬ (k : Int) < (k : Int) := by omega
                obtain ⟨en, rfl⟩ : ∃ en, en = k := ⟨_, rfl⟩
                have wG : IntKind.i64.wrap (V : Int) = V := IntWalk.i64_in _ (by omega)
                have htb := HT5.out.num V
                have hby : Below w2.heap.size w2 (w5.setCell ⟨w2.heap.size, 2, none⟩ (.int .i64 V)) := HB25.out.setCell (Nat.le_refl _) _
                obtain ⟨_, _, t2, _, tf⟩ := HT5.out.cells
                have tf2 := tf 2
                have HSC := Lib.hid (ref_number HR.out.all hie (by have := HRN.out; omega) HA.out HNX.out (by rw [HV.out]; exact hv))
                rw [HV.out] at HSC
                clear tf hv
                have hrg : (w5.setCell ⟨w2.heap.size, 2, none⟩ (.int .i64 V)).rangeAt w2.heap.size 0 [.int .u8 2, .string ⟨#[]⟩, .int .i64 V, .int .i64 i] := htb.range
                have HRG := Lib.hid hrg
                have hrow : (w5.setCell ⟨w2.heap.size, 2, none⟩ (.int .i64 V)).ownsRow w1.heap.size 75 4 u7 done.length (flat done) := toks_below HROW2.out hby
                have HROW := Lib.hid hrow
                have HBY := Lib.hid hby
                have HSZ : Hid (∀ o, w1.heap.size ≤ ((w5.setCell ⟨w2.heap.size, 2, none⟩ (.int .i64 V)).alloc o).heap.size) := Lib.hid (fun o => by rw [World.size_alloc]; have := hby.size; have := HW2.out.size; omega)
                clear hrg hrow hby htb
                go_wp2_with (first | (refine wpList_load_mid rfl 75 (.tmp 10) rfl w2.heap.size 0 rfl [.int .u8 2, .string ⟨#[]⟩, .int .i64 V, .int .i64 i] _ HRG.out Tryd.underlying75 rfl infoTok4 ?_) | (at_builtin; refine wpList_append_own _ rfl (.tmp 132) (.tmp 134) 54 rfl w1.heap.size 75 i0 (.agg #[.int .u8 0, .string ⟨#[]⟩, .int .i64 0, .int .i64 0]) 4 40 Tryd.underlying54 hi0 hz0 hz1 hz2 rfl (by decide) _ _ _ rfl (HROW.out.alloc _) ⟨_, 0, none⟩ 1 1 [.int .u8 2, .string ⟨#[]⟩, .int .i64 V, .int .i64 i] rfl rfl (cell_four_at _ _ _ _ _ _ _ (by simp)) (by simp [Value.oneCell']) (by unfold maxLen; omega) (by omega) (HSZ.out _) ?_))
                intro v4 w4 k4 g4 _
                have HF := Lib.hid (ref_more (t := ⟨2, [], V, i⟩) HROW2.out HW2.out HBY.out g4 k4 (HSC.out) hfew hie)
                clear k4 g4
                go_wp2_with fail
                go_roundw
                case rel => exact ⟨en, _, by omega, by first | go_num | (congr 1; omega), HF.out⟩
                case measure => simp [intOf]; omega
      · by_cases e33 : r = 33 ∨ r = 60
        · have hb33 : ((r : Int) == 33) = true ∨ ((r : Int) == 33) = false ∧ ((r : Int) == 60) = true := by
            rcases e33 with rfl | rfl <;> simp
          have H33 := Lib.hid e33
          clear e33
          by_cases hx1 : i + 1 < n
          · obtain ⟨r2, hr2⟩ : ∃ r, (rn s 0)[i + 1]? = some r := ⟨_, List.getElem?_eq_getElem (by have := HRN.out; omega)⟩
            by_cases e61 : r2 = 61
            · have hlt1 : (i : Int) + 1 < (n : Int) := by omega
              have hb61 : ((r2 : Int) == 61) = true := by simp [e61]
              have HX := Lib.hid hr2
              have H61 := Lib.hid (show (rn s 0)[i + 1]? = some 61 from e61 ▸ hr2)
              clear e61 hr2
              rcases hb33 with b33 | ⟨b33, b60⟩
              all_goals
                have HC := Lib.hid h; clear h
                go_wp2_with fail
                refine (what_of HC.out hok _).mono ?_
                rintro e w2 ⟨rfl, hb2⟩
                have HB2 := Lib.hid hb2
                clear hb2
                have HROW2 := Lib.hid (toks_below HR.out.row HB2.out)
                have HW2 := Lib.hid (HR.out.below.trans (HB2.out.mono HR.out.below.size))
                have hg12 : g1 < w2.heap.size := by have := HW2.out.size; omega
                have hfew : done.length ≤ i := HR.out.few
                have hci2 : w2.cell? ⟨g1, i, none⟩ = some (.int .i32 r) := by rw [HW2.out.cell (p := ⟨g1, i, none⟩) hg1]; exact HCS.out i r HRR.out
                have hcx : w2.cell? ⟨g1, i + 1, none⟩ = some (.int .i32 r2) := by rw [HW2.out.cell (p := ⟨g1, i + 1, none⟩) hg1]; exact HCS.out (i + 1) _ HX.out
                obtain ⟨en, hen⟩ : ∃ en : Nat, (i : Int) + 1 + 1 = en := ⟨i + 2, by omega⟩
                have HE2 : Hid (en = i + 2) := Lib.hid (by omega)
                have hie : i < en := by omega

                go_wp2_with fail
                have HT3 : Hid (TB (w2.alloc (.cells #[.int .u8 3, .string ⟨#[]⟩, .int .i64 0, .int .i64 i] 75)) w2.heap.size ⟨3, [], 0, i⟩) := heap_alloc_new w2 _
                have HB3 : Hid (Below w2.heap.size w2 (w2.alloc (.cells #[.int .u8 3, .string ⟨#[]⟩, .int .i64 0, .int .i64 i] 75))) := (Below.refl _ w2).alloc (Nat.le_refl _) _
                generalize w2.alloc (.cells #[.int .u8 3, .string ⟨#[]⟩, .int .i64 0, .int .i64 i] 75) = w3 at HT3 HB3 ⊢

                have HB5 : Hid (Below w3.heap.size w3 w3) := Below.refl _ _

                have HT5 := Lib.hid (HT3.out.on HB5.out)
                have HB25 := Lib.hid (HB3.out.trans (HB5.out.mono HB3.out.size))
                go_loopw [15] (fun u15 wy => TextRel s i en 3 w2.heap.size w2 u15 wy) (fun u15 _ => en - (intOf u15).toNat)
                case atStart => exact ⟨i, Nat.le_refl _, by omega, rfl, by rw [seg_nil]; exact HT5.out, HB25.out⟩
                case round =>
                  rename World => wy
                  obtain ⟨k, hik, hke, rfl, htb, hby⟩ := hrel
                  by_cases hk : k < en
                  · obtain ⟨r3, hr3⟩ : ∃ r, (rn s 0)[k]? = some r := ⟨_, List.getElem?_eq_getElem (by have := HRN.out; omega)⟩
                    have hc3 : wy.cell? ⟨g1, k, none⟩ = some (.int .i32 r3) := by rw [hby.cell (p := ⟨g1, k, none⟩) hg12, HW2.out.cell (p := ⟨g1, k, none⟩) hg1]; exact HCS.out k r3 hr3
                    obtain ⟨_, t1, _, _, tf⟩ := htb.cells
                    have tf1 := tf 1
                    have hz1 := textOf_bound (seg (rn s 0) i k) 1000 (by rw [seg_len (by have := HRN.out; omega)]; omega)
                    have hz2 : (Utf8.encode (r3 : Int)).size ≤ 4 := by rw [textOf_one r3 (rn_ok s 0 r3 (List.mem_of_getElem? hr3))]; exact textOf_bound [r3] 1 (by simp)
                    have hk1 : (k : Int) + 1 ≤ 9223372036854775807 := by omega
                    have HN := Lib.hid (fun (u : Value) (hu : u = .int .i64 (k + 1 : Nat)) => text_next hik hk hr3 htb hby (Nat.le_refl _) hu)
                    clear tf hr3 htb hby
                    go_wp2_with fail
                    go_region
                    all_goals
                      go_wp2_with fail
                      go_roundw
                      case rel => exact HN.out _ (by go_num)
                      case measure => simp [intOf]; omega
                  · obtain rfl : k = en := by omega
                    have hnk : ¬ (k : Int) < (k : Int) := by omega
                    obtain ⟨en, rfl⟩ : ∃ en, en = k := ⟨_, rfl⟩
                    have hrg : wy.rangeAt w2.heap.size 0 [.int .u8 3, .string (textOf (seg (rn s 0) i en)), .int .i64 0, .int .i64 i] := htb.range
                    have HRG := Lib.hid hrg
                    have hrow : wy.ownsRow w1.heap.size 75 4 u7 done.length (flat done) := toks_below HROW2.out hby
                    have HROW := Lib.hid hrow
                    have HBY := Lib.hid hby
                    have HSZ : Hid (∀ o, w1.heap.size ≤ (wy.alloc o).heap.size) := Lib.hid (fun o => by rw [World.size_alloc]; have := hby.size; have := HW2.out.size; omega)
                    clear hrg hrow hby htb
                    go_wp2_with (first | (refine wpList_load_mid rfl 75 (.tmp 10) rfl w2.heap.size 0 rfl [.int .u8 3, .string (textOf (seg (rn s 0) i en)), .int .i64 0, .int .i64 i] _ HRG.out Tryd.underlying75 rfl infoTok4 ?_) | (at_builtin; refine wpList_append_own _ rfl (.tmp 132) (.tmp 134) 54 rfl w1.heap.size 75 i0 (.agg #[.int .u8 0, .string ⟨#[]⟩, .int .i64 0, .int .i64 0]) 4 40 Tryd.underlying54 hi0 hz0 hz1 hz2 rfl (by decide) _ _ _ rfl (HROW.out.alloc _) ⟨_, 0, none⟩ 1 1 [.int .u8 3, .string (textOf (seg (rn s 0) i en)), .int .i64 0, .int .i64 i] rfl rfl (cell_four_at _ _ _ _ _ _ _ (by simp)) (by simp [Value.oneCell']) (by unfold maxLen; omega) (by omega) (HSZ.out _) ?_))
                    intro v4 w4 k4 g4 _
                    have HF := Lib.hid (ref_more (t := ⟨3, seg (rn s 0) i en, 0, i⟩) HROW2.out HW2.out HBY.out g4 k4 (by rw [HE2.out]; exact ref_sign2 (HR.out.step HRR.out) HRR.out H61.out H33.out) hfew hie)
                    clear k4 g4
                    go_wp2_with fail
                    go_roundw
                    case rel => exact ⟨en, _, by omega, by first | go_num | (congr 1; omega), HF.out⟩
                    case measure => simp [intOf]; omega
            · have hb61 : ((r2 : Int) == 61) = false := by simp; omega
              have HX := Lib.hid hr2
              have HNX : Hid (∀ r', (rn s 0)[i + 1]? = some r' → ¬ ((r = 33 ∨ r = 60) ∧ r' = 61)) := Lib.hid (fun r' h => by rw [HX.out] at h; cases h; exact fun k => e61 k.2)
              clear e61 hr2
              rcases hb33 with b33 | ⟨b33, b60⟩
              all_goals
                have HC := Lib.hid h; clear h
                go_wp2_with fail
                refine (what_of HC.out hok _).mono ?_
                rintro e w2 ⟨rfl, hb2⟩
                have HB2 := Lib.hid hb2
                clear hb2
                have HROW2 := Lib.hid (toks_below HR.out.row HB2.out)
                have HW2 := Lib.hid (HR.out.below.trans (HB2.out.mono HR.out.below.size))
                have hg12 : g1 < w2.heap.size := by have := HW2.out.size; omega
                have hfew : done.length ≤ i := HR.out.few
                have hci2 : w2.cell? ⟨g1, i, none⟩ = some (.int .i32 r) := by rw [HW2.out.cell (p := ⟨g1, i, none⟩) hg1]; exact HCS.out i r HRR.out
                obtain ⟨en, hen⟩ : ∃ en : Nat, (i : Int) + 1 = en := ⟨i + 1, by omega⟩
                have HE2 : Hid (en = i + 1) := Lib.hid (by omega)
                have hie : i < en := by omega
                have hlt2 : (en : Int) < (n : Int) := by omega
                have HXE : Hid ((rn s 0)[en]? = some r2) := Lib.hid (by rw [HE2.out]; exact HX.out)
                have hcx : w2.cell? ⟨g1, en, none⟩ = some (.int .i32 r2) := by rw [HW2.out.cell (p := ⟨g1, en, none⟩) hg1]; exact HCS.out en _ HXE.out

                go_wp2_with fail
                have HT3 : Hid (TB (w2.alloc (.cells #[.int .u8 3, .string ⟨#[]⟩, .int .i64 0, .int .i64 i] 75)) w2.heap.size ⟨3, [], 0, i⟩) := heap_alloc_new w2 _
                have HB3 : Hid (Below w2.heap.size w2 (w2.alloc (.cells #[.int .u8 3, .string ⟨#[]⟩, .int .i64 0, .int .i64 i] 75))) := (Below.refl _ w2).alloc (Nat.le_refl _) _
                generalize w2.alloc (.cells #[.int .u8 3, .string ⟨#[]⟩, .int .i64 0, .int .i64 i] 75) = w3 at HT3 HB3 ⊢

                have HB5 : Hid (Below w3.heap.size w3 w3) := Below.refl _ _

                have HT5 := Lib.hid (HT3.out.on HB5.out)
                have HB25 := Lib.hid (HB3.out.trans (HB5.out.mono HB3.out.size))
                go_loopw [15] (fun u15 wy => TextRel s i en 3 w2.heap.size w2 u15 wy) (fun u15 _ => en - (intOf u15).toNat)
                case atStart => exact ⟨i, Nat.le_refl _, by omega, rfl, by rw [seg_nil]; exact HT5.out, HB25.out⟩
                case round =>
                  rename World => wy
                  obtain ⟨k, hik, hke, rfl, htb, hby⟩ := hrel
                  by_cases hk : k < en
                  · obtain ⟨r3, hr3⟩ : ∃ r, (rn s 0)[k]? = some r := ⟨_, List.getElem?_eq_getElem (by have := HRN.out; omega)⟩
                    have hc3 : wy.cell? ⟨g1, k, none⟩ = some (.int .i32 r3) := by rw [hby.cell (p := ⟨g1, k, none⟩) hg12, HW2.out.cell (p := ⟨g1, k, none⟩) hg1]; exact HCS.out k r3 hr3
                    obtain ⟨_, t1, _, _, tf⟩ := htb.cells
                    have tf1 := tf 1
                    have hz1 := textOf_bound (seg (rn s 0) i k) 1000 (by rw [seg_len (by have := HRN.out; omega)]; omega)
                    have hz2 : (Utf8.encode (r3 : Int)).size ≤ 4 := by rw [textOf_one r3 (rn_ok s 0 r3 (List.mem_of_getElem? hr3))]; exact textOf_bound [r3] 1 (by simp)
                    have hk1 : (k : Int) + 1 ≤ 9223372036854775807 := by omega
                    have HN := Lib.hid (fun (u : Value) (hu : u = .int .i64 (k + 1 : Nat)) => text_next hik hk hr3 htb hby (Nat.le_refl _) hu)
                    clear tf hr3 htb hby
                    go_wp2_with fail
                    go_region
                    all_goals
                      go_wp2_with fail
                      go_roundw
                      case rel => exact HN.out _ (by go_num)
                      case measure => simp [intOf]; omega
                  · obtain rfl : k = en := by omega
                    have hnk : ¬ (k : Int) < (k : Int) := by omega
                    obtain ⟨en, rfl⟩ : ∃ en, en = k := ⟨_, rfl⟩
                    have hrg : wy.rangeAt w2.heap.size 0 [.int .u8 3, .string (textOf (seg (rn s 0) i en)), .int .i64 0, .int .i64 i] := htb.range
                    have HRG := Lib.hid hrg
                    have hrow : wy.ownsRow w1.heap.size 75 4 u7 done.length (flat done) := toks_below HROW2.out hby
                    have HROW := Lib.hid hrow
                    have HBY := Lib.hid hby
                    have HSZ : Hid (∀ o, w1.heap.size ≤ (wy.alloc o).heap.size) := Lib.hid (fun o => by rw [World.size_alloc]; have := hby.size; have := HW2.out.size; omega)
                    clear hrg hrow hby htb
                    go_wp2_with (first | (refine wpList_load_mid rfl 75 (.tmp 10) rfl w2.heap.size 0 rfl [.int .u8 3, .string (textOf (seg (rn s 0) i en)), .int .i64 0, .int .i64 i] _ HRG.out Tryd.underlying75 rfl infoTok4 ?_) | (at_builtin; refine wpList_append_own _ rfl (.tmp 132) (.tmp 134) 54 rfl w1.heap.size 75 i0 (.agg #[.int .u8 0, .string ⟨#[]⟩, .int .i64 0, .int .i64 0]) 4 40 Tryd.underlying54 hi0 hz0 hz1 hz2 rfl (by decide) _ _ _ rfl (HROW.out.alloc _) ⟨_, 0, none⟩ 1 1 [.int .u8 3, .string (textOf (seg (rn s 0) i en)), .int .i64 0, .int .i64 i] rfl rfl (cell_four_at _ _ _ _ _ _ _ (by simp)) (by simp [Value.oneCell']) (by unfold maxLen; omega) (by omega) (HSZ.out _) ?_))
                    intro v4 w4 k4 g4 _
                    have HF := Lib.hid (ref_more (t := ⟨3, seg (rn s 0) i en, 0, i⟩) HROW2.out HW2.out HBY.out g4 k4 (by rw [HE2.out]; exact ref_sign (HR.out.step HRR.out) HRR.out HC.out HNX.out) hfew hie)
                    clear k4 g4
                    go_wp2_with fail
                    go_roundw
                    case rel => exact ⟨en, _, by omega, by first | go_num | (congr 1; omega), HF.out⟩
                    case measure => simp [intOf]; omega
          · have HNX : Hid (∀ r', (rn s 0)[i + 1]? = some r' → ¬ ((r = 33 ∨ r = 60) ∧ r' = 61)) := Lib.hid (fun r' h => by
              have h2 := (List.getElem?_eq_some_iff.1 h).1
              have := HRN.out
              omega)
            rcases hb33 with b33 | ⟨b33, b60⟩
            all_goals
              have HC := Lib.hid h; clear h
              go_wp2_with fail
              refine (what_of HC.out hok _).mono ?_
              rintro e w2 ⟨rfl, hb2⟩
              have HB2 := Lib.hid hb2
              clear hb2
              have HROW2 := Lib.hid (toks_below HR.out.row HB2.out)
              have HW2 := Lib.hid (HR.out.below.trans (HB2.out.mono HR.out.below.size))
              have hg12 : g1 < w2.heap.size := by have := HW2.out.size; omega
              have hfew : done.length ≤ i := HR.out.few
              have hci2 : w2.cell? ⟨g1, i, none⟩ = some (.int .i32 r) := by rw [HW2.out.cell (p := ⟨g1, i, none⟩) hg1]; exact HCS.out i r HRR.out
              obtain ⟨en, hen⟩ : ∃ en : Nat, (i : Int) + 1 = en := ⟨i + 1, by omega⟩
              have HE2 : Hid (en = i + 1) := Lib.hid (by omega)
              have hie : i < en := by omega
              have hlt2 : ¬ (en : Int) < (n : Int) := by omega
              have hlt3 : decide (en < n) = false := by simp; omega
              have hlt5 : ¬ en < n := by omega

              go_wp2_with fail
              have HT3 : Hid (TB (w2.alloc (.cells #[.int .u8 3, .string ⟨#[]⟩, .int .i64 0, .int .i64 i] 75)) w2.heap.size ⟨3, [], 0, i⟩) := heap_alloc_new w2 _
              have HB3 : Hid (Below w2.heap.size w2 (w2.alloc (.cells #[.int .u8 3, .string ⟨#[]⟩, .int .i64 0, .int .i64 i] 75))) := (Below.refl _ w2).alloc (Nat.le_refl _) _
              generalize w2.alloc (.cells #[.int .u8 3, .string ⟨#[]⟩, .int .i64 0, .int .i64 i] 75) = w3 at HT3 HB3 ⊢

              have HB5 : Hid (Below w3.heap.size w3 w3) := Below.refl _ _

              have HT5 := Lib.hid (HT3.out.on HB5.out)
              have HB25 := Lib.hid (HB3.out.trans (HB5.out.mono HB3.out.size))
              go_loopw [15] (fun u15 wy => TextRel s i en 3 w2.heap.size w2 u15 wy) (fun u15 _ => en - (intOf u15).toNat)
              case atStart => exact ⟨i, Nat.le_refl _, by omega, rfl, by rw [seg_nil]; exact HT5.out, HB25.out⟩
              case round =>
                rename World => wy
                obtain ⟨k, hik, hke, rfl, htb, hby⟩ := hrel
                by_cases hk : k < en
                · obtain ⟨r3, hr3⟩ : ∃ r, (rn s 0)[k]? = some r := ⟨_, List.getElem?_eq_getElem (by have := HRN.out; omega)⟩
                  have hc3 : wy.cell? ⟨g1, k, none⟩ = some (.int .i32 r3) := by rw [hby.cell (p := ⟨g1, k, none⟩) hg12, HW2.out.cell (p := ⟨g1, k, none⟩) hg1]; exact HCS.out k r3 hr3
                  obtain ⟨_, t1, _, _, tf⟩ := htb.cells
                  have tf1 := tf 1
                  have hz1 := textOf_bound (seg (rn s 0) i k) 1000 (by rw [seg_len (by have := HRN.out; omega)]; omega)
                  have hz2 : (Utf8.encode (r3 : Int)).size ≤ 4 := by rw [textOf_one r3 (rn_ok s 0 r3 (List.mem_of_getElem? hr3))]; exact textOf_bound [r3] 1 (by simp)
                  have hk1 : (k : Int) + 1 ≤ 9223372036854775807 := by omega
                  have HN := Lib.hid (fun (u : Value) (hu : u = .int .i64 (k + 1 : Nat)) => text_next hik hk hr3 htb hby (Nat.le_refl _) hu)
                  clear tf hr3 htb hby
                  go_wp2_with fail
                  go_region
                  all_goals
                    go_wp2_with fail
                    go_roundw
                    case rel => exact HN.out _ (by go_num)
                    case measure => simp [intOf]; omega
                · obtain rfl : k = en := by omega
                  have hnk : ¬ (k : Int) < (k : Int) := by omega
                  obtain ⟨en, rfl⟩ : ∃ en, en = k := ⟨_, rfl⟩
                  have hrg : wy.rangeAt w2.heap.size 0 [.int .u8 3, .string (textOf (seg (rn s 0) i en)), .int .i64 0, .int .i64 i] := htb.range
                  have HRG := Lib.hid hrg
                  have hrow : wy.ownsRow w1.heap.size 75 4 u7 done.length (flat done) := toks_below HROW2.out hby
                  have HROW := Lib.hid hrow
                  have HBY := Lib.hid hby
                  have HSZ : Hid (∀ o, w1.heap.size ≤ (wy.alloc o).heap.size) := Lib.hid (fun o => by rw [World.size_alloc]; have := hby.size; have := HW2.out.size; omega)
                  clear hrg hrow hby htb
                  go_wp2_with (first | (refine wpList_load_mid rfl 75 (.tmp 10) rfl w2.heap.size 0 rfl [.int .u8 3, .string (textOf (seg (rn s 0) i en)), .int .i64 0, .int .i64 i] _ HRG.out Tryd.underlying75 rfl infoTok4 ?_) | (at_builtin; refine wpList_append_own _ rfl (.tmp 132) (.tmp 134) 54 rfl w1.heap.size 75 i0 (.agg #[.int .u8 0, .string ⟨#[]⟩, .int .i64 0, .int .i64 0]) 4 40 Tryd.underlying54 hi0 hz0 hz1 hz2 rfl (by decide) _ _ _ rfl (HROW.out.alloc _) ⟨_, 0, none⟩ 1 1 [.int .u8 3, .string (textOf (seg (rn s 0) i en)), .int .i64 0, .int .i64 i] rfl rfl (cell_four_at _ _ _ _ _ _ _ (by simp)) (by simp [Value.oneCell']) (by unfold maxLen; omega) (by omega) (HSZ.out _) ?_))
                  intro v4 w4 k4 g4 _
                  have HF := Lib.hid (ref_more (t := ⟨3, seg (rn s 0) i en, 0, i⟩) HROW2.out HW2.out HBY.out g4 k4 (by rw [HE2.out]; exact ref_sign (HR.out.step HRR.out) HRR.out HC.out HNX.out) hfew hie)
                  clear k4 g4
                  go_wp2_with fail
                  go_roundw
                  case rel => exact ⟨en, _, by omega, by first | go_num | (congr 1; omega), HF.out⟩
                  case measure => simp [intOf]; omega
        · have b33 : ((r : Int) == 33) = false := by simp; omega
          have b60 : ((r : Int) == 60) = false := by simp; omega
          have HNX : Hid (∀ r', (rn s 0)[i + 1]? = some r' → ¬ ((r = 33 ∨ r = 60) ∧ r' = 61)) := Lib.hid (fun r' _ k => e33 k.1)
          clear e33
          have HC := Lib.hid h; clear h
          go_wp2_with fail
          refine (what_of HC.out hok _).mono ?_
          rintro e w2 ⟨rfl, hb2⟩
          have HB2 := Lib.hid hb2
          clear hb2
          have HROW2 := Lib.hid (toks_below HR.out.row HB2.out)
          have HW2 := Lib.hid (HR.out.below.trans (HB2.out.mono HR.out.below.size))
          have hg12 : g1 < w2.heap.size := by have := HW2.out.size; omega
          have hfew : done.length ≤ i := HR.out.few
          have hci2 : w2.cell? ⟨g1, i, none⟩ = some (.int .i32 r) := by rw [HW2.out.cell (p := ⟨g1, i, none⟩) hg1]; exact HCS.out i r HRR.out
          obtain ⟨en, hen⟩ : ∃ en : Nat, (i : Int) + 1 = en := ⟨i + 1, by omega⟩
          have HE2 : Hid (en = i + 1) := Lib.hid (by omega)
          have hie : i < en := by omega

          go_wp2_with fail
          have HT3 : Hid (TB (w2.alloc (.cells #[.int .u8 3, .string ⟨#[]⟩, .int .i64 0, .int .i64 i] 75)) w2.heap.size ⟨3, [], 0, i⟩) := heap_alloc_new w2 _
          have HB3 : Hid (Below w2.heap.size w2 (w2.alloc (.cells #[.int .u8 3, .string ⟨#[]⟩, .int .i64 0, .int .i64 i] 75))) := (Below.refl _ w2).alloc (Nat.le_refl _) _
          generalize w2.alloc (.cells #[.int .u8 3, .string ⟨#[]⟩, .int .i64 0, .int .i64 i] 75) = w3 at HT3 HB3 ⊢

          have HB5 : Hid (Below w3.heap.size w3 w3) := Below.refl _ _

          have HT5 := Lib.hid (HT3.out.on HB5.out)
          have HB25 := Lib.hid (HB3.out.trans (HB5.out.mono HB3.out.size))
          go_loopw [15] (fun u15 wy => TextRel s i en 3 w2.heap.size w2 u15 wy) (fun u15 _ => en - (intOf u15).toNat)
          case atStart => exact ⟨i, Nat.le_refl _, by omega, rfl, by rw [seg_nil]; exact HT5.out, HB25.out⟩
          case round =>
            rename World => wy
            obtain ⟨k, hik, hke, rfl, htb, hby⟩ := hrel
            by_cases hk : k < en
            · obtain ⟨r3, hr3⟩ : ∃ r, (rn s 0)[k]? = some r := ⟨_, List.getElem?_eq_getElem (by have := HRN.out; omega)⟩
              have hc3 : wy.cell? ⟨g1, k, none⟩ = some (.int .i32 r3) := by rw [hby.cell (p := ⟨g1, k, none⟩) hg12, HW2.out.cell (p := ⟨g1, k, none⟩) hg1]; exact HCS.out k r3 hr3
              obtain ⟨_, t1, _, _, tf⟩ := htb.cells
              have tf1 := tf 1
              have hz1 := textOf_bound (seg (rn s 0) i k) 1000 (by rw [seg_len (by have := HRN.out; omega)]; omega)
              have hz2 : (Utf8.encode (r3 : Int)).size ≤ 4 := by rw [textOf_one r3 (rn_ok s 0 r3 (List.mem_of_getElem? hr3))]; exact textOf_bound [r3] 1 (by simp)
              have hk1 : (k : Int) + 1 ≤ 9223372036854775807 := by omega
              have HN := Lib.hid (fun (u : Value) (hu : u = .int .i64 (k + 1 : Nat)) => text_next hik hk hr3 htb hby (Nat.le_refl _) hu)
              clear tf hr3 htb hby
              go_wp2_with fail
              go_region
              all_goals
                go_wp2_with fail
                go_roundw
                case rel => exact HN.out _ (by go_num)
                case measure => simp [intOf]; omega
            · obtain rfl : k = en := by omega
              have hnk : ¬ (k : Int) < (k : Int) := by omega
              obtain ⟨en, rfl⟩ : ∃ en, en = k := ⟨_, rfl⟩
              have hrg : wy.rangeAt w2.heap.size 0 [.int .u8 3, .string (textOf (seg (rn s 0) i en)), .int .i64 0, .int .i64 i] := htb.range
              have HRG := Lib.hid hrg
              have hrow : wy.ownsRow w1.heap.size 75 4 u7 done.length (flat done) := toks_below HROW2.out hby
              have HROW := Lib.hid hrow
              have HBY := Lib.hid hby
              have HSZ : Hid (∀ o, w1.heap.size ≤ (wy.alloc o).heap.size) := Lib.hid (fun o => by rw [World.size_alloc]; have := hby.size; have := HW2.out.size; omega)
              clear hrg hrow hby htb
              go_wp2_with (first | (refine wpList_load_mid rfl 75 (.tmp 10) rfl w2.heap.size 0 rfl [.int .u8 3, .string (textOf (seg (rn s 0) i en)), .int .i64 0, .int .i64 i] _ HRG.out Tryd.underlying75 rfl infoTok4 ?_) | (at_builtin; refine wpList_append_own _ rfl (.tmp 132) (.tmp 134) 54 rfl w1.heap.size 75 i0 (.agg #[.int .u8 0, .string ⟨#[]⟩, .int .i64 0, .int .i64 0]) 4 40 Tryd.underlying54 hi0 hz0 hz1 hz2 rfl (by decide) _ _ _ rfl (HROW.out.alloc _) ⟨_, 0, none⟩ 1 1 [.int .u8 3, .string (textOf (seg (rn s 0) i en)), .int .i64 0, .int .i64 i] rfl rfl (cell_four_at _ _ _ _ _ _ _ (by simp)) (by simp [Value.oneCell']) (by unfold maxLen; omega) (by omega) (HSZ.out _) ?_))
              intro v4 w4 k4 g4 _
              have HF := Lib.hid (ref_more (t := ⟨3, seg (rn s 0) i en, 0, i⟩) HROW2.out HW2.out HBY.out g4 k4 (by rw [HE2.out]; exact ref_sign (HR.out.step HRR.out) HRR.out HC.out HNX.out) hfew hie)
              clear k4 g4
              go_wp2_with fail
              go_roundw
              case rel => exact ⟨en, _, by omega, by first | go_num | (congr 1; omega), HF.out⟩
              case measure => simp [intOf]; omega
    · have HE : Hid (toksO s = (done, 0, 0)) := Lib.hid (HO.out.trans (HR.out.all.symm.trans (by rw [List.drop_eq_nil_of_le (by have := HRN.out; omega), scan_nil]; simp)))
      have hle : (n : Int) ≤ (i : Int) := by omega
      go_wp2_with fail
      go_ret3
      exact tok_post HE.out (toks_mono HR.out.row HB.out.size) (HB.out.trans (HR.out.below.mono HB.out.size))
end Go.Proofs.YtffhmbiamkbchaaDoor.lex
