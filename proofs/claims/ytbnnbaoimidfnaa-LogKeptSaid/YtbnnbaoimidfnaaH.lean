/- A log that the call made: each method in one word; 'works' answers true; LogKnown returns true. -/
import Derived.Test.YtbnnbaoimidfnaaF
namespace Go.Proofs.Ytbnnbaoimidfnaa.lg
set_option linter.unusedSimpArgs false
set_option linter.unusedVariables false
open Go.RowKit byt frm dsk

section
variable {B l d : Nat} {w0 w : World} {x x2 : D} {y y2 : Lg} {E : Int}
theorem openHere {f : Nat} (hs : Settled x) (hf : f < 16) (hx : Here B w0 d x w) : Calls Try.prog 8 #[ptr d 0, .int .i64 f] w fun e w' => ∃ l, e = .returned (.tuple #[ptr l 0, .int .i64 0]) ∧ LogHere B w0 l d (openD x f) (openL x f) w' := by
  obtain ⟨F, hd, hF, hb, hB⟩ := hx
  refine (open_any hs hf hd).mono ?_
  rintro e w' ⟨l, he, hl, ho⟩
  refine ⟨l, he, _, hl, fun k hk => ?_, hb.trans (ho.below (by have := hb.size; omega) hF), hB⟩
  rcases hk with hk | ⟨hk, _⟩
  · exact hF k hk
  · have := hb.size; omega
theorem putHere (r : Fr) (hr : 0 < r.1.1) (hs : putL x y r = (E, x2, y2)) (h : LogHere B w0 l d x y w) (hlen : x.loose.length ≤ 1099511627776) :
    Calls Try.prog 11 #[ptr l 0, .int .u8 (r.1.1 : Nat), .string r.1.2] w fun e w' => e = .returned (.int .i64 E) ∧ LogHere B w0 l d x2 y2 w' := by
  obtain ⟨G, hl, hG, hb, hB⟩ := h
  exact (put_any r hr hl hs hlen).mono fun e w' ⟨he, p⟩ => ⟨he, LogHere.post hG hb hB p⟩
theorem putZero (p : ByteArray) (hp : p.size ≤ 9223372036854775807) (h : LogHere B w0 l d x y w) :
    Calls Try.prog 11 #[ptr l 0, .int .u8 0, .string p] w fun e w' => e = .returned (.int .i64 2) ∧ LogHere B w0 l d x y w' := by
  obtain ⟨G, hl, hG, hb, hB⟩ := h
  exact (put_zero p hp hl).mono fun e w' ⟨he, p⟩ => ⟨he, LogHere.post hG hb hB p⟩
theorem syncHere (hs : syncL x y = (E, x2, y2)) (h : LogHere B w0 l d x y w) : Calls Try.prog 15 #[ptr l 0] w fun e w' => e = .returned (.int .i64 E) ∧ LogHere B w0 l d x2 y2 w' := by
  obtain ⟨G, hl, hG, hb, hB⟩ := h
  exact (sync_any hl hs).mono fun e w' ⟨he, p⟩ => ⟨he, LogHere.post hG hb hB p⟩
theorem cutHere (n : Int) (hs : cutL x y n = (E, x2, y2)) (h : LogHere B w0 l d x y w) (hlen : x.loose.length ≤ 1099511627776) : Calls Try.prog 12 #[ptr l 0, .int .i64 n] w fun e w' => e = .returned (.int .i64 E) ∧ LogHere B w0 l d x2 y2 w' := by
  obtain ⟨G, hl, hG, hb, hB⟩ := h
  exact (cut_any n hl hs hlen).mono fun e w' ⟨he, p⟩ => ⟨he, LogHere.post hG hb hB p⟩
theorem lenHere {n : Nat} (hn : y.recs.length = n) (h : LogHere B w0 l d x y w) : Calls Try.prog 10 #[ptr l 0] w fun e w' => e = .returned (.int .i64 n) ∧ w = w' := by
  obtain ⟨G, ⟨F, v, hp, _⟩, _⟩ := h
  exact len_any hp.log hn
theorem sureHere {n : Nat} (hn : y.sure = n) (h : LogHere B w0 l d x y w) : Calls Try.prog 13 #[ptr l 0] w fun e w' => e = .returned (.int .i64 n) ∧ w = w' := by
  obtain ⟨G, ⟨F, v, hp, _⟩, _⟩ := h
  exact sure_any hp.log hn
theorem atHere {k : Nat} {r : Fr} (hr : y.recs[k]? = some r) (h : LogHere B w0 l d x y w) : Calls Try.prog 14 #[ptr l 0, .int .i64 k] w fun e w' => e = .returned (.tuple #[.int .u8 (r.1.1 : Nat), .string r.1.2, .int .i64 0]) ∧ LogHere B w0 l d x y w' := by
  have h' := h
  obtain ⟨G, ⟨F, v, hp, _⟩, _⟩ := h
  exact (at_any hp.log hr).mono fun e w' ⟨he, hb⟩ => ⟨he, h'.on hb⟩
end
theorem readNil (n : Int) (w : World) : Calls Try.prog 19 #[.pointer none, .int .i64 n] w fun e w' => e = .returned (.tuple #[.string ⟨#[]⟩, .int .i64 1]) ∧ Below w.heap.size w w' := by
  go_enter Try.func19, Try.ntmps19
  go_wp2_with fail
  refine (refusal_nil _ _ _ _).mono ?_
  rintro e w' ⟨rfl, rfl⟩
  go_wp2_with fail
  go_ret2
  exact ⟨rfl, (Below.refl _ w).alloc (Nat.le_refl _) _⟩
theorem openBad {v : Value} {n E : Int} {s : ByteArray} {w : World} (hE : E ≠ 0) (h : Calls Try.prog 19 #[v, .int .i64 n] w fun e w' => e = .returned (.tuple #[.string s, .int .i64 E]) ∧ Below w.heap.size w w') :
    Calls Try.prog 8 #[v, .int .i64 n] w fun e w' => e = .returned (.tuple #[.pointer none, .int .i64 E]) ∧ Below w.heap.size w w' := by
  have H := Lib.hid h
  have hE' : (E != 0) = true := by simp [hE]
  clear h hE
  go_enter Try.func8, Try.ntmps8
  go_wp2_with fail
  refine H.out.mono ?_
  rintro e w1 ⟨rfl, hb⟩
  have HB := Lib.hid hb
  clear hb
  go_wp2_with fail
  go_ret2
  exact ⟨rfl, HB.out⟩

def r1 : Fr := ⟨(1, ⟨#[97]⟩), by decide⟩
def r2 : Fr := ⟨(2, ⟨#[]⟩), by decide⟩
def r3 : Fr := ⟨(3, ⟨#[98]⟩), by decide⟩
def n0 : D × Lg := (openD (D.fresh 1000) 0, openL (D.fresh 1000) 0)
def n1 : D × Lg := (putL n0.1 n0.2 r1).2
def n2 : D × Lg := (putL n1.1 n1.2 r2).2
def n3 : D × Lg := (syncL n2.1 n2.2).2
def n4 : D × Lg := (putL n3.1 n3.2 r3).2
def n5 : D := n4.1.crash 0 0
def n6 : D × Lg := (openD n5 0, openL n5 0)
def n7 : D × Lg := (cutL n2.1 n2.2 1).2
theorem e1 : putL n0.1 n0.2 r1 = (0, n1.1, n1.2) := Prod.ext (by kernel_rfl) rfl
theorem e2 : putL n1.1 n1.2 r2 = (0, n2.1, n2.2) := Prod.ext (by kernel_rfl) rfl
theorem e3 : syncL n2.1 n2.2 = (0, n3.1, n3.2) := Prod.ext (by kernel_rfl) rfl
theorem e4 : putL n3.1 n3.2 r3 = (0, n4.1, n4.2) := Prod.ext (by kernel_rfl) rfl
theorem e7 : cutL n2.1 n2.2 1 = (0, n7.1, n7.2) := Prod.ext (by kernel_rfl) rfl
theorem l0 : n0.1.loose.length ≤ 1099511627776 := Nat.le_trans (Nat.le_of_eq (by kernel_rfl : n0.1.loose.length = 0)) (by decide)
theorem l1 : n1.1.loose.length ≤ 1099511627776 := Nat.le_trans (Nat.le_of_eq (by kernel_rfl : n1.1.loose.length = 1)) (by decide)
theorem l2 : n2.1.loose.length ≤ 1099511627776 := Nat.le_trans (Nat.le_of_eq (by kernel_rfl : n2.1.loose.length = 2)) (by decide)
theorem l3 : n3.1.loose.length ≤ 1099511627776 := Nat.le_trans (Nat.le_of_eq (by kernel_rfl : n3.1.loose.length = 0)) (by decide)
theorem l4 : n4.1.loose.length ≤ 1099511627776 := Nat.le_trans (Nat.le_of_eq (by kernel_rfl : n4.1.loose.length = 1)) (by decide)
theorem r6 : n6.2.recs.length = 2 := by kernel_rfl
theorem r6' : n6.2.recs[1]? = some r2 := by kernel_rfl
theorem r0 : n0.2.recs.length = 0 := by kernel_rfl
theorem r7 : n7.2.recs.length = 1 := by kernel_rfl
theorem s7 : n7.2.sure = 1 := by kernel_rfl
theorem newK (w : World) : Calls Try.prog 7 #[.int .i64 1000] w fun e w' => e = .returned (.tuple #[ptr w.heap.size 0, .int .i64 0]) ∧ Here w.heap.size w w.heap.size (D.fresh 1000) w' := new_here 1000 (by decide) (by decide) w
section
variable {B l d : Nat} {w0 w : World}
theorem k0 (hx : Here B w0 d (D.fresh 1000) w) : Calls Try.prog 8 #[ptr d 0, .int .i64 0] w fun e w' => ∃ l, e = .returned (.tuple #[ptr l 0, .int .i64 0]) ∧ LogHere B w0 l d n0.1 n0.2 w' := openHere (f := 0) (Settled.fresh 1000) (by decide) hx
theorem k1 (h : LogHere B w0 l d n0.1 n0.2 w) : Calls Try.prog 11 #[ptr l 0, .int .u8 1, .string ⟨#[97]⟩] w fun e w' => e = .returned (.int .i64 0) ∧ LogHere B w0 l d n1.1 n1.2 w' := putHere r1 (by decide) e1 h l0
theorem k2 (h : LogHere B w0 l d n1.1 n1.2 w) : Calls Try.prog 11 #[ptr l 0, .int .u8 2, .string ⟨#[]⟩] w fun e w' => e = .returned (.int .i64 0) ∧ LogHere B w0 l d n2.1 n2.2 w' := putHere r2 (by decide) e2 h l1
theorem k4 (h : LogHere B w0 l d n3.1 n3.2 w) : Calls Try.prog 11 #[ptr l 0, .int .u8 3, .string ⟨#[98]⟩] w fun e w' => e = .returned (.int .i64 0) ∧ LogHere B w0 l d n4.1 n4.2 w' := putHere r3 (by decide) e4 h l3
theorem k5 (h : LogHere B w0 l d n4.1 n4.2 w) : Calls Try.prog 17 #[ptr d 0, .int .i64 0, .int .i64 0] w fun e w' => e = .returned (.tuple #[]) ∧ Here B w0 d n5 w' := crash_here rfl (by decide) (by decide) (by decide) (by decide) h.disk l4
theorem k6 (hx : Here B w0 d n5 w) : Calls Try.prog 8 #[ptr d 0, .int .i64 0] w fun e w' => ∃ l, e = .returned (.tuple #[ptr l 0, .int .i64 0]) ∧ LogHere B w0 l d n6.1 n6.2 w' := openHere (f := 0) (Settled.crash _ 0 0) (by decide) hx
theorem k8 (h : LogHere B w0 l d n6.1 n6.2 w) : Calls Try.prog 14 #[ptr l 0, .int .i64 1] w fun e w' => e = .returned (.tuple #[.int .u8 2, .string ⟨#[]⟩, .int .i64 0]) ∧ LogHere B w0 l d n6.1 n6.2 w' := atHere (k := 1) r6' h
theorem k9 (h : LogHere B w0 l d n6.1 n6.2 w) : Calls Try.prog 10 #[ptr l 0] w fun e w' => e = .returned (.int .i64 2) ∧ w = w' := lenHere (n := 2) r6 h
theorem k7 (h : LogHere B w0 l d n2.1 n2.2 w) : Calls Try.prog 12 #[ptr l 0, .int .i64 1] w fun e w' => e = .returned (.int .i64 0) ∧ LogHere B w0 l d n7.1 n7.2 w' := cutHere 1 e7 h l2
theorem k10 (h : LogHere B w0 l d n0.1 n0.2 w) : Calls Try.prog 10 #[ptr l 0] w fun e w' => e = .returned (.int .i64 0) ∧ w = w' := lenHere (n := 0) r0 h
theorem k11 (h : LogHere B w0 l d n7.1 n7.2 w) : Calls Try.prog 10 #[ptr l 0] w fun e w' => e = .returned (.int .i64 1) ∧ w = w' := lenHere (n := 1) r7 h
theorem k12 (h : LogHere B w0 l d n7.1 n7.2 w) : Calls Try.prog 13 #[ptr l 0] w fun e w' => e = .returned (.int .i64 1) ∧ w = w' := sureHere (n := 1) s7 h
theorem k13 (h : LogHere B w0 l d n7.1 n7.2 w) : Calls Try.prog 8 #[ptr d 0, .int .i64 (-1)] w fun e w' => e = .returned (.tuple #[.pointer none, .int .i64 2]) ∧ LogHere B w0 l d n7.1 n7.2 w' := by
  have h' := h
  obtain ⟨F, hd, hF, hb, hB⟩ := h.disk
  exact (openBad (by decide) (read_at (i := -1) (E := 2) (s := empty) (by kernel_rfl) w F d hd)).mono fun e w' ⟨he, hb⟩ => ⟨he, h'.on hb⟩
end
set_option maxHeartbeats 1600000 in
set_option maxRecDepth 100000 in
theorem works_any (w : World) : Calls Try.prog 9 #[] w fun e w' => e = .returned (.bool true) ∧ Below w.heap.size w w' := by
  go_enter Try.func9, Try.ntmps9
  go_wp2_with fail
  refine (newK w).mono ?_
  rintro e a1 ⟨rfl, h⟩
  have H := Lib.hid h; clear h
  go_wp2_with fail
  refine (k0 H.out).mono ?_
  rintro e w' ⟨l, rfl, h⟩
  have H := Lib.hid h; clear h
  go_wp2_with fail
  refine (k1 H.out).mono ?_
  rintro e w' ⟨rfl, h⟩
  have H := Lib.hid h; clear h
  go_wp2_with fail
  refine (k2 H.out).mono ?_
  rintro e w' ⟨rfl, h⟩
  have H := Lib.hid h; clear h
  go_wp2_with fail
  refine (syncHere e3 H.out).mono ?_
  rintro e w' ⟨rfl, h⟩
  have H := Lib.hid h; clear h
  go_wp2_with fail
  refine (k4 H.out).mono ?_
  rintro e w' ⟨rfl, h⟩
  have H := Lib.hid h; clear h
  go_wp2_with fail
  refine (k5 H.out).mono ?_
  rintro e w' ⟨rfl, h⟩
  have H := Lib.hid h; clear h
  go_wp2_with fail
  refine (k6 H.out).mono ?_
  rintro e w' ⟨l2, rfl, h⟩
  have H := Lib.hid h; clear h
  go_wp2_with fail
  refine (k8 H.out).mono ?_
  rintro e w' ⟨rfl, h⟩
  have H := Lib.hid h; clear h
  go_wp2_with fail
  refine (k9 H.out).mono ?_
  rintro e w' ⟨rfl, rfl⟩
  go_wp2_with fail
  go_ret
  exact ⟨rfl, H.out.below⟩
set_option maxHeartbeats 1600000 in
set_option maxRecDepth 100000 in
theorem law_known (w : World) : Calls Try.prog 3 #[] w fun e w' => e = .returned (.bool true) ∧ Below w.heap.size w w' := by
  go_enter Try.func3, Try.ntmps3
  go_wp2_with fail
  refine (newK w).mono ?_
  rintro e a1 ⟨rfl, h⟩
  have H := Lib.hid h; clear h
  go_wp2_with fail
  refine (k0 H.out).mono ?_
  rintro e w' ⟨l, rfl, h⟩
  have H := Lib.hid h; clear h
  go_wp2_with fail
  refine (works_any _).mono ?_
  rintro e w' ⟨rfl, hb⟩
  have H := Lib.hid (H.out.on hb); clear hb
  go_wp2_with fail
  refine (k10 H.out).mono ?_
  rintro e w' ⟨rfl, rfl⟩
  go_wp2_with fail
  refine (k1 H.out).mono ?_
  rintro e w' ⟨rfl, h⟩
  have H := Lib.hid h; clear h
  go_wp2_with fail
  refine (k2 H.out).mono ?_
  rintro e w' ⟨rfl, h⟩
  have H := Lib.hid h; clear h
  go_wp2_with fail
  refine (k7 H.out).mono ?_
  rintro e w' ⟨rfl, h⟩
  have H := Lib.hid h; clear h
  go_wp2_with fail
  refine (k11 H.out).mono ?_
  rintro e w' ⟨rfl, rfl⟩
  go_wp2_with fail
  refine (k12 H.out).mono ?_
  rintro e w' ⟨rfl, rfl⟩
  go_wp2_with fail
  refine (at_nil _ _).mono ?_
  rintro e w' ⟨rfl, rfl⟩
  go_wp2_with fail
  refine (openBad (by decide) (readNil _ _)).mono ?_
  rintro e w' ⟨rfl, hb⟩
  have H := Lib.hid (H.out.on hb); clear hb
  go_wp2_with fail
  refine (k13 H.out).mono ?_
  rintro e w' ⟨rfl, h⟩
  have H := Lib.hid h; clear h
  go_wp2_with fail
  refine (put_nil _ _ _).mono ?_
  rintro e w' ⟨rfl, rfl⟩
  go_wp2_with fail
  refine (sync_nil _).mono ?_
  rintro e w' ⟨rfl, rfl⟩
  go_wp2_with fail
  refine (cut_nil _ _).mono ?_
  rintro e w' ⟨rfl, rfl⟩
  go_wp2_with fail
  refine (len_nil _).mono ?_
  rintro e w' ⟨rfl, rfl⟩
  go_wp2_with fail
  refine (sure_nil _).mono ?_
  rintro e w' ⟨rfl, rfl⟩
  go_wp2_with fail
  go_ret
  exact ⟨rfl, H.out.below⟩
end Go.Proofs.Ytbnnbaoimidfnaa.lg
