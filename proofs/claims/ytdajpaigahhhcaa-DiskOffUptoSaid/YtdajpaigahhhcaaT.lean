/- Rows of texts that came in; strings.Join of them. DiskRoom returns true. -/
import Derived.Test.YtdajpaigahhhcaaS
import Derived.Test.YtdajpaigahhhcaaJn
namespace Go.Proofs.Ytdajpaigahhhcaa.dsk
set_option linter.unusedSimpArgs false
set_option linter.unusedVariables false
open Go.RowKit

/-- A slice, nil or not, whose texts are l, below block B. -/
def Txs (w : World) (B : Nat) (a : Option Addr) (l : List ByteArray) : Prop :=
  l ≠ [] → ∃ b o, a = some ⟨b, o, none⟩ ∧ b < B ∧ ∀ j, j < l.length → w.cell? ⟨b, o + j, none⟩ = some (.string (l.getD j empty))
theorem Txs.below {w w' : World} {B : Nat} {a : Option Addr} {l : List ByteArray} (h : Txs w B a l) (hb : Below B w w') : Txs w' B a l := fun hl => by
  obtain ⟨b, o, e, hlt, hc⟩ := h hl
  exact ⟨b, o, e, hlt, fun j hj => (hb.cell (p := ⟨b, o + j, none⟩) hlt).trans (hc j hj)⟩
theorem Txs.take {w : World} {B : Nat} {a : Option Addr} {l : List ByteArray} (h : Txs w B a l) (k : Nat) : Txs w B a (l.take k) := fun hl => by
  obtain ⟨b, o, e, hlt, hc⟩ := h (by rintro rfl; simp at hl)
  refine ⟨b, o, e, hlt, fun j hj => ?_⟩
  rw [List.length_take] at hj
  rw [hc j (by omega), List.getD_eq_getElem?_getD, List.getD_eq_getElem?_getD, List.getElem?_take, if_pos (by omega)]
/-- The bytes of a row of texts. -/
def fl (l : List ByteArray) : List UInt8 := l.flatMap fun s => s.data.toList
theorem fl_nil : fl [] = [] := rfl
theorem fl_cons (s : ByteArray) (l : List ByteArray) : fl (s :: l) = s.data.toList ++ fl l := rfl
theorem fl_mem {l : List ByteArray} {s : ByteArray} (h : s ∈ l) : s.size ≤ (fl l).length := by
  induction l with
  | nil => cases h
  | cons x l ih =>
    rw [fl_cons, List.length_append, Array.length_toList]
    have e : x.data.size = x.size := rfl
    rcases List.mem_cons.1 h with rfl | h2
    · omega
    · have := ih h2; omega
def cat (l : List ByteArray) : ByteArray := ⟨(fl l).toArray⟩
theorem cat_size (l : List ByteArray) : (cat l).size = (fl l).length := by simp [cat, ByteArray.size]
theorem join_empty : ∀ (xs : List (List UInt8)), Lib.join xs [] = xs.flatten
  | [] => rfl
  | [x] => by simp [Lib.join, List.intercalate]
  | x :: y :: r => by
    have ih := join_empty (y :: r)
    unfold Lib.join List.intercalate at ih ⊢
    simp at ih ⊢
    exact ih
theorem join_fl (l : List ByteArray) : Lib.join (l.map (·.data.toList)) [] = fl l := by
  rw [join_empty, fl, List.flatMap_def]
/-- strings.Join of a row of texts, with nothing between them. -/
theorem joined_any (l : List ByteArray) (a : Option Addr) (cap : Nat) (w : World) (hr : Txs w w.heap.size a l) (hl : l.length ≤ cap) (hn : l.length ≤ 1048576) (hf : (fl l).length ≤ 1048576) :
    Calls Try.prog 26 #[.slice a l.length cap, .string ⟨#[]⟩] w fun e w' => e = .returned (.string (cat l)) ∧ Below w.heap.size w w' := by
  by_cases h0 : l = []
  · subst h0
    refine (Try.strings_Join_none _ _ _ w).mono ?_
    rintro e w' ⟨rfl, rfl⟩
    exact ⟨rfl, Below.refl _ _⟩
  · obtain ⟨b, o, rfl, hb, hc⟩ := hr h0
    have hj : Lib.join (l.map (·.data.toList)) (⟨#[]⟩ : ByteArray).data.toList = fl l := join_fl l
    refine (Try.strings_Join b o cap l ⟨#[]⟩ w (fun j x hx => ?_) hb (by omega) hl (by rw [hj]; omega)).mono ?_
    · have hjl : j < l.length := by
        rcases Nat.lt_or_ge j l.length with h5 | h5
        · exact h5
        · rw [List.getElem?_eq_none h5] at hx; cases hx
      have := hc j hjl
      rw [List.getD_eq_getElem?_getD, hx] at this
      exact this
    · rintro e w' ⟨rfl, h2⟩
      exact ⟨by rw [hj]; rfl, h2⟩
theorem joined_at {l : List ByteArray} {t : ByteArray} (h : cat l = t) {a : Option Addr} {cap : Nat} {w w1 : World} (hr : Txs w w.heap.size a l) (hb : Below w.heap.size w w1) (hl : l.length ≤ cap) (hn : l.length ≤ 1048576) (hf : (fl l).length ≤ 1048576) :
    Calls Try.prog 26 #[.slice a l.length cap, .string ⟨#[]⟩] w1 fun e w' => e = .returned (.string t) ∧ Below w1.heap.size w1 w' := by
  subst h
  refine joined_any l a cap w1 (fun hne => ?_) hl hn hf
  obtain ⟨b, o, e, hlt, hc⟩ := hr.below hb hne
  exact ⟨b, o, e, by have := hb.size; omega, hc⟩

/-! ### DiskRoom -/
theorem append_7 {x : D} (ho : x.off = false) (i : Nat) (hi : i < 16) (s : ByteArray) {r : Int} (hr : x.room' = r) (hs : r < s.size) : x.append i s = (7, x) := by
  unfold D.append
  have hf : isFile (i : Int) = true := isFile_iff.2 ⟨by omega, by omega⟩
  rw [if_neg (by rw [ho]; decide), if_neg (by rw [hf]; decide), if_pos (by rw [hr]; exact hs)]
theorem append_0 {x : D} (ho : x.off = false) (hl : x.left = -1) (i : Nat) (hi : i < 16) (s : ByteArray) {r : Int} (hr : x.room' = r) (hs : (s.size : Int) ≤ r) :
    x.append i s = (0, { x with loose := x.loose ++ [.app i s] }) ∧ D.room' { x with loose := x.loose ++ [.app i s] } = r - s.size := by
  have hr' := hr
  unfold D.room' at hr
  refine ⟨append_fine ho hl i hi s (by omega), ?_⟩
  unfold D.room'
  have e : D.now { x with loose := x.loose ++ [.app i s] } = upd x.now i (x.now i ++ s) := run_snoc _ _ _
  have ht := total_upd x.now (x.now i ++ s) hi
  rw [ByteArray.size_append] at ht
  rw [e]
  show (x.room : Int) - (total (upd x.now i (x.now i ++ s)) : Nat) = _
  omega
/-- The disk, so far: it has room for r bytes. -/
def RoomRel (w : World) (room k : Nat) (left : Value) (wr : World) : Prop :=
  ∃ (x : D) (r : Int), Here w.heap.size w w.heap.size x wr ∧ x.off = false ∧ x.left = -1 ∧ x.room' = r ∧ left = .int .i64 r ∧ x.loose.length ≤ k ∧ r ≤ room ∧ 0 ≤ r
theorem fresh_room (n : Nat) : (D.fresh n).room' = n := by
  unfold D.room'
  have : total (D.fresh n).now = 0 := total_empty
  rw [this]; simp [D.fresh]
theorem room_start {w w1 : World} {n : Nat} (h : Here w.heap.size w w.heap.size (D.fresh n) w1) : RoomRel w n 0 (.int .i64 n) w1 :=
  ⟨_, n, h, rfl, rfl, fresh_room n, rfl, Nat.le_refl _, Int.le_refl _, by omega⟩
theorem rem16 (k : Nat) : (k : Int) % 16 = ((k % 16 : Nat) : Int) := by omega
set_option maxHeartbeats 3200000 in
set_option maxRecDepth 100000 in
theorem law_room (room : Int) (l : List ByteArray) (a : Option Addr) (cap : Nat) (w : World) (hr : Txs w w.heap.size a l) (hl : l.length ≤ cap) (hn : l.length ≤ 1048576) (hf : (fl l).length ≤ 1048576) :
    Calls Try.prog 5 #[.int .i64 room, .slice a l.length cap] w fun e w' => e = .returned (.bool true) ∧ Below w.heap.size w w' := by
  by_cases hbad : room < 1 ∨ 4194304 < room
  · have HN := Lib.hid (new_bad room hbad w)
    clear hbad
    go_enter Try.func5, Try.ntmps5
    go_wp2_with fail
    refine HN.out.mono ?_
    rintro e w1 ⟨rfl, rfl⟩
    go_wp2_with fail
    refine (works_any _).mono ?_
    rintro e w2 ⟨rfl, hb⟩
    have HB := Lib.hid hb; clear hb
    go_wp2_with fail
    go_ret
    exact ⟨rfl, HB.out⟩
  · obtain ⟨n, rfl⟩ : ∃ n : Nat, room = n := ⟨room.toNat, by omega⟩
    have HN := Lib.hid (new_here n (by omega) (by omega) w)
    have hn2 : (n : Int) ≤ 4194304 := by omega
    clear hbad
    by_cases h200 : 200 < l.length
    · have h200' : (200 : Int) < (l.length : Int) := by omega
      clear h200
      go_enter Try.func5, Try.ntmps5
      go_wp2_with fail
      refine HN.out.mono ?_
      rintro e w1 ⟨rfl, h⟩
      have H := Lib.hid h; clear h
      go_wp2_with fail
      refine (works_any _).mono ?_
      rintro e w2 ⟨rfl, hb⟩
      have HB := Lib.hid (H.out.on hb); clear hb
      go_wp2_with fail
      go_ret
      exact ⟨rfl, HB.out.below⟩
    · have h200' : (l.length : Int) ≤ 200 := by omega
      obtain ⟨t, et⟩ : ∃ t, cat l = t := ⟨_, rfl⟩
      have HJ := Lib.hid (fun w1 (hb : Below w.heap.size w w1) => joined_at et hr hb hl hn hf)
      have HR := Lib.hid hr
      have HS := Lib.hid (fun (s : ByteArray) (h : s ∈ l) => show s.size ≤ 1048576 by have := fl_mem h; omega)
      clear et hr
      by_cases hbig : 262144 < t.size
      · have hbig' : (262144 : Int) < (t.size : Int) := by omega
        clear hbig
        go_enter Try.func5, Try.ntmps5
        go_wp2_with fail
        refine HN.out.mono ?_
        rintro e w1 ⟨rfl, h⟩
        have H := Lib.hid h; clear h
        go_wp2_with fail
        refine (HJ.out w1 H.out.below).mono ?_
        rintro e w2 ⟨rfl, hb⟩
        have H := Lib.hid (H.out.on hb); clear hb
        go_wp2_with fail
        refine (works_any _).mono ?_
        rintro e w2 ⟨rfl, hb⟩
        have HB := Lib.hid (H.out.on hb); clear hb
        go_wp2_with fail
        go_ret
        exact ⟨rfl, HB.out.below⟩
      · have hbig' : (t.size : Int) ≤ 262144 := by omega
        clear hbig
        go_enter Try.func5, Try.ntmps5
        go_wp2_with fail
        refine HN.out.mono ?_
        rintro e w1 ⟨rfl, h⟩
        have H := Lib.hid h; clear h
        go_wp2_with fail
        refine (HJ.out w1 H.out.below).mono ?_
        rintro e w2 ⟨rfl, hb⟩
        have H := Lib.hid (H.out.on hb); clear hb
        go_wp2_with fail
        go_loopw [7, 33] (fun left i wr => ∃ k : Nat, k ≤ l.length ∧ i = .int .i64 k ∧ RoomRel w n k left wr) (fun _ i _ => l.length - (intOf i).toNat)
        case atStart => exact ⟨0, Nat.zero_le _, rfl, room_start H.out⟩
        case round =>
          obtain ⟨k, hk, rfl, x, r, hx, ho, hlf, hrr, rfl, hlen, hrn, hr0⟩ := hrel
          have HX := Lib.hid hx
          by_cases hlt : k < l.length
          · obtain ⟨s, es⟩ : ∃ s, l.getD k empty = s := ⟨_, rfl⟩
            have hmem : s ∈ l := by rw [← es, List.getD_eq_getElem?_getD, List.getElem?_eq_getElem hlt]; exact List.getElem_mem hlt
            have hss := HS.out s hmem
            obtain ⟨b, o, rfl, hbl, hc⟩ := HR.out (by rintro rfl; simp at hlt)
            have hck : wr.cell? ⟨b, o + k, none⟩ = some (.string s) := by
              rw [hx.below.cell (p := ⟨b, o + k, none⟩) hbl, hc k hlt, es]
            have hk16 : k % 16 < 16 := Nat.mod_lt _ (by decide)
            by_cases hfit : (s.size : Int) ≤ r
            · obtain ⟨h1, h2⟩ := append_0 ho hlf (k % 16) hk16 s hrr hfit
              rw [← rem16] at h1
              have HA := Lib.hid (fun (_ : Unit) => h1)
              have HL := Lib.hid (fun (_ : Unit) => h2)
              have HO := Lib.hid (And.intro ho hlf)
              have hlen' : x.loose.length ≤ 1099511627776 := by omega
              have HLE := Lib.hid hlen'
              have HLEN := Lib.hid hlen
              clear h1 h2 ho hlf hrr hc es hmem hx hlen' hlen
              go_wp2_with fail
              refine (append_here (HA.out ()) HX.out HLE.out).mono ?_
              rintro e w3 ⟨rfl, h⟩
              have H3 := Lib.hid h; clear h
              go_wp2_with fail
              refine (left_here (HL.out ()) H3.out).mono ?_
              rintro e w4 ⟨rfl, rfl⟩
              go_wp2_with fail
              go_roundw
              case rel => exact ⟨k + 1, by omega, by go_num, _, _, H3.out, HO.out.1, HO.out.2, HL.out (), rfl, by rw [List.length_append]; have := HLEN.out; simp; omega, by omega, by omega⟩
              case measure => simp [intOf]; omega
            · have hfit' : r < (s.size : Int) := by omega
              have h1 := append_7 ho (k % 16) hk16 s hrr hfit'
              rw [← rem16] at h1
              have HA := Lib.hid (fun (_ : Unit) => h1)
              have HL := Lib.hid (fun (_ : Unit) => hrr)
              have HO := Lib.hid (And.intro ho hlf)
              have hlen' : x.loose.length ≤ 1099511627776 := by omega
              have HLE := Lib.hid hlen'
              have HLEN := Lib.hid hlen
              clear h1 ho hlf hrr hc es hmem hx hlen' hlen hfit
              go_wp2_with fail
              refine (append_here (HA.out ()) HX.out HLE.out).mono ?_
              rintro e w3 ⟨rfl, h⟩
              have H3 := Lib.hid h; clear h
              go_wp2_with fail
              refine (left_here (HL.out ()) H3.out).mono ?_
              rintro e w4 ⟨rfl, rfl⟩
              go_wp2_with fail
              go_roundw
              case rel => exact ⟨k + 1, by omega, by go_num, _, _, H3.out, HO.out.1, HO.out.2, HL.out (), rfl, by have := HLEN.out; omega, by omega, by omega⟩
              case measure => simp [intOf]; omega
          · clear hx hrr ho hlf hlen
            go_wp2_with fail
            refine (works_any _).mono ?_
            rintro e w2 ⟨rfl, hb⟩
            have HB := Lib.hid (HX.out.on hb); clear hb
            go_wp2_with fail
            go_ret
            exact ⟨rfl, HB.out.below⟩
end Go.Proofs.Ytdajpaigahhhcaa.dsk
