/- A row of calls that came in; whether they are too many; the table that they make. -/
import Derived.Test.YtghpbhcnblninaaTbU
import Derived.Deep.Slices
namespace Go.Proofs.Ytghpbhcnblninaa.tbl
set_option linter.unusedSimpArgs false
set_option linter.unusedVariables false
open Go.RowKit
attribute [local go_sem ↓] Go.wp_at_zero Go.wp_at_succ
open Go.Proofs.Ytghpbhcnblninaa.grp (gof gof_in fits fits_wf IRow intV below_on' below_made ret_bool own_below irow_new below_drewN EqPost eq_yes eq_no)
open Go.Proofs.Ytghpbhcnblninaa.byt (txt bl)
/-- Numbers that a slice reads, below block B. -/
def Row (w : World) (B : Nat) (a : Option Addr) (c : Nat) (l : List Int) : Prop :=
  (a = none → c = 0) ∧ (0 < l.length → ∃ g o, a = some ⟨g, o, none⟩ ∧ g < B ∧ ∀ i (h : i < l.length), w.cell? ⟨g, o + i, none⟩ = some (.int .i64 l[i]))
theorem Row.below {w w' : World} {B : Nat} {a : Option Addr} {c : Nat} {l : List Int} (h : Row w B a c l) (hb : Below B w w') : Row w' B a c l := ⟨h.1, fun hl => by
  obtain ⟨g, o, h1, h2, h3⟩ := h.2 hl
  exact ⟨g, o, h1, h2, fun i hi => (hb.cell (p := ⟨g, o + i, none⟩) h2).trans (h3 i hi)⟩⟩
theorem Row.sl {w : World} {B : Nat} {a : Option Addr} {c : Nat} {l : List Int} (h : Row w B a c l) (hB : B ≤ w.heap.size) : Sl w a c l := ⟨h.1, fun hl => by
  obtain ⟨g, o, h1, h2, h3⟩ := h.2 hl
  exact ⟨g, o, h1, Nat.lt_of_lt_of_le h2 hB, h3⟩⟩
theorem Row.ne {w : World} {B : Nat} {a : Option Addr} {c : Nat} {l : List Int} (h : Row w B a c l) {t : Nat} (ht : B ≤ t) : 0 < l.length → ∀ ad, a = some ad → ad.block ≠ t := fun hl ad e => by
  obtain ⟨g, o, h1, h2, h3⟩ := h.2 hl
  rw [h1] at e
  obtain rfl := Option.some.inj e
  show g ≠ t
  omega
/-- A call: what it is, its key, its cell. -/
structure Opn where
  kind : Int
  key : Int
  acc : Int
  a : Option Addr
  ns : List Int
  cap : Nat
def Opn.fit (o : Opn) : Prop := grp.fits o.kind ∧ grp.fits o.key ∧ grp.fits o.acc ∧ ∀ n ∈ o.ns, grp.fits n
def Opn.cells (o : Opn) : List Value := [.int .i64 o.kind, .int .i64 o.key, .int .i64 o.acc, .slice o.a o.ns.length o.cap]
def noOp : Opn := ⟨7, 0, 0, none, [], 0⟩
instance : Inhabited Opn := ⟨noOp⟩
/-- A slice, nil or not, whose calls are l, below block B. -/
def Ops (w : World) (B : Nat) (a : Option Addr) (l : List Opn) : Prop :=
  (l ≠ [] → ∃ b o, a = some ⟨b, o, none⟩ ∧ b < B ∧ ∀ j, j < l.length → w.rangeAt b (o + j * 4) (l.getD j noOp).cells) ∧ ∀ p ∈ l, Row w B p.a p.cap p.ns ∧ p.fit
theorem Ops.below {w w' : World} {B : Nat} {a : Option Addr} {l : List Opn} (h : Ops w B a l) (hb : Below B w w') : Ops w' B a l := ⟨fun hl => by
  obtain ⟨b, o, e, hlt, hc⟩ := h.1 hl
  refine ⟨b, o, e, hlt, fun j hj k v hk => ?_⟩
  exact (hb.cell (p := ⟨b, o + j * 4 + k, none⟩) hlt).trans (hc j hj k v hk), fun p hp => ⟨(h.2 p hp).1.below hb, (h.2 p hp).2⟩⟩
def NotHeavy (l : List Opn) : Prop := l.length ≤ 300 ∧ ∀ p ∈ l, p.ns.length ≤ 100
theorem info47 : (Try.prog.info? 47).map (·.size) = some 4 := by kernel_rfl
def HeavyRel (w : World) (l : List Opn) (i : Value) (wr : World) : Prop :=
  ∃ k : Nat, k ≤ l.length ∧ i = .int .i64 k ∧ (∀ j, j < k → (l.getD j noOp).ns.length ≤ 100) ∧ Below w.heap.size w wr
theorem getD_at {l : List Opn} {k : Nat} (h : k < l.length) : l.getD k noOp = l[k] := by rw [List.getD_eq_getElem?_getD, List.getElem?_eq_getElem h]; rfl
theorem getD_mem {l : List Opn} {k : Nat} (h : k < l.length) : l.getD k noOp ∈ l := by rw [getD_at h]; exact List.getElem_mem h
theorem all_got {l : List Opn} {P : Opn → Prop} (h : ∀ j, j < l.length → P (l.getD j noOp)) : ∀ p ∈ l, P p := fun p hp => by
  obtain ⟨j, hj, rfl⟩ := List.getElem_of_mem hp
  have := h j hj
  rwa [getD_at hj] at this
set_option maxHeartbeats 1600000 in
set_option maxRecDepth 100000 in
/-- Heavy says no only of at most 300 calls whose rows are at most 100 long. -/
theorem heavy_any (l : List Opn) (a : Option Addr) (cap : Nat) (w : World) (hr : Ops w w.heap.size a l) (hl : l.length ≤ cap) (hc : l.length ≤ 9223372036854775807) :
    Calls Try.prog 22 #[.slice a l.length cap] w fun e w' => (∃ h, e = .returned (.bool h) ∧ (h = false → NotHeavy l)) ∧ Below w.heap.size w w' := by
  have HR := Lib.hid hr
  clear hr
  go_enter Try.func22, Try.ntmps22
  go_wp2_with fail
  go_loopg [7] l.length (fun g v7 wr => ∃ k : Nat, k + g = l.length ∧ v7 = .int .i64 k ∧ (∀ j, j < k → (l.getD j noOp).ns.length ≤ 100) ∧ Below w.heap.size w wr)
  case atStart => exact ⟨0, by omega, rfl, fun j hj => by omega, Below.refl _ _⟩
  case round =>
    obtain ⟨k, hkg, rfl, hn, hb⟩ := hrel
    have HN := Lib.hid hn
    clear hn
    cases gk with
    | succ g =>
      have hlt : k < l.length := by omega
      obtain ⟨b, o, rfl, hbl, hcs⟩ := HR.out.1 (by rintro rfl; simp at hlt)
      obtain ⟨p, ep⟩ : ∃ p, l.getD k noOp = p := ⟨_, rfl⟩
      have hck : wr.rangeAt b (o + k * 4) p.cells := by
        intro j v hv
        rw [← ep] at hv
        exact (hb.cell (p := ⟨b, o + k * 4 + j, none⟩) hbl).trans (hcs k hlt j v hv)
      have HC := Lib.hid hck
      have HB := Lib.hid hb
      have hsz := hb.size
      have HP := Lib.hid ep
      obtain ⟨m, hm⟩ : ∃ m, p.ns.length = m := ⟨_, rfl⟩
      unfold Opn.cells at HC
      rw [hm] at HC
      have HM := Lib.hid hm
      clear hcs hck ep hb hm
      by_cases hbig : 100 < m
      · have hbig' : (100 : Int) < (m : Int) := by omega
        go_wp2_with (first | (refine wpList_load_mid rfl 47 (.tmp 9) rfl b (o + k * 4) rfl [.int .i64 p.kind, .int .i64 p.key, .int .i64 p.acc, .slice p.a m p.cap] _ HC.out Try.underlying47 rfl info47 ?_))
        try rw [Exit.noGoto_ret]
        go_ret
        exact ⟨⟨_, rfl, fun h => by simp at h⟩, (HB.out.alloc hsz _)⟩
      · have hbig' : (m : Int) ≤ (100 : Int) := by omega
        have HBG := Lib.hid hbig
        clear hbig
        go_wp2_with (first | (refine wpList_load_mid rfl 47 (.tmp 9) rfl b (o + k * 4) rfl [.int .i64 p.kind, .int .i64 p.key, .int .i64 p.acc, .slice p.a m p.cap] _ HC.out Try.underlying47 rfl info47 ?_))
        go_roundg g
        case measure => omega
        case rel =>
          refine ⟨k + 1, by omega, by go_num, fun j hj => ?_, (HB.out.alloc hsz _)⟩
          rcases Nat.lt_or_ge j k with h | h
          · exact HN.out j h
          · obtain rfl : j = k := by omega
            rw [HP.out, HM.out]
            have := HBG.out
            omega
    | zero =>
      have hkl : k = l.length := by omega
      have HB := Lib.hid hb
      have HL := Lib.hid hkl
      clear hb
      by_cases h3 : 300 < l.length
      · have h3' : (300 : Int) < (l.length : Int) := by omega
        have H3 := Lib.hid h3
        clear h3
        go_wp2_with fail
        go_ret
        exact ⟨⟨_, rfl, fun h => by simp at h⟩, HB.out⟩
      · have h3' : (l.length : Int) ≤ 300 := by omega
        have H3 := Lib.hid h3
        clear h3
        go_wp2_with fail
        go_ret
        exact ⟨⟨_, rfl, fun _ => ⟨by have := H3.out; omega, all_got (P := fun p => p.ns.length ≤ 100) (fun j hj => HN.out j (by rw [HL.out]; exact hj))⟩⟩, HB.out⟩
/-- Calls made one by one. -/
def madeO (L : Rows) (l : List Opn) : Rows := l.foldl (fun T p => (putO T p.key (p.acc, p.ns)).2) L
theorem made_snoc (l : List Opn) {k : Nat} (h : k < l.length) : madeO [] (l.take (k + 1)) = (putO (madeO [] (l.take k)) (l.getD k noOp).key ((l.getD k noOp).acc, (l.getD k noOp).ns)).2 := by
  unfold madeO
  rw [List.take_succ_eq_append_getElem h, List.foldl_append, getD_at h]
  rfl
set_option maxHeartbeats 1600000 in
set_option maxRecDepth 100000 in
theorem made_any (l : List Opn) (a : Option Addr) (cap : Nat) (w : World) (hr : Ops w w.heap.size a l) (hl : l.length ≤ cap) (hc : NotHeavy l) :
    Calls Try.prog 32 #[.slice a l.length cap] w fun e w' => ∃ t b, e = .returned (.pointer (some ⟨t, 0, none⟩)) ∧ MadeT w.heap.size w w' t b (madeO [] l) := by
  have HR := Lib.hid hr
  have HH := Lib.hid hc
  have hl3 := hc.1
  clear hr hc
  go_enter Try.func32, Try.ntmps32
  go_wp2_with fail
  refine (new_any w).mono ?_
  rintro e w1 ⟨t, b, rfl, ht, hwt, hwb, hb⟩
  have HT := Lib.hid ht
  have HB := Lib.hid hb
  clear ht hb
  go_wp2_with fail
  go_loopg [9] l.length (fun g v9 wr => ∃ k : Nat, k + g = l.length ∧ v9 = .int .i64 k ∧ IsTab wr t b (madeO [] (l.take k)) ∧ Below w.heap.size w wr)
  case atStart => exact ⟨0, by omega, rfl, HT.out, HB.out⟩
  case round =>
    obtain ⟨k, hkg, rfl, ht, hb⟩ := hrel
    cases gk with
    | succ g =>
      have hlt : k < l.length := by omega
      obtain ⟨b0, o, rfl, hbl, hcs⟩ := HR.out.1 (by rintro rfl; simp at hlt)
      have hst := made_snoc l hlt
      have hpm := HR.out.2 _ (getD_mem hlt)
      have hpl := HH.out.2 _ (getD_mem hlt)
      obtain ⟨p, ep⟩ : ∃ p, l.getD k noOp = p := ⟨_, rfl⟩
      rw [ep] at hst hpm hpl
      have hck : wr.rangeAt b0 (o + k * 4) p.cells := by
        intro j v hv
        rw [← ep] at hv
        exact (hb.cell (p := ⟨b0, o + k * 4 + j, none⟩) hbl).trans (hcs k hlt j v hv)
      have hbx := below_made wr (.cells #[.int .i64 p.kind, .int .i64 p.key, .int .i64 p.acc, .slice p.a p.ns.length p.cap] 47)
      have HC := Lib.hid hck
      have HT := Lib.hid (ht.below hbx)
      have HB := Lib.hid (below_on' hb hbx)
      have hsz := hb.size
      have HST := Lib.hid hst
      have HW := Lib.hid ((hpm.1.below hb).below (hbx.mono hb.size))
      have HPM := Lib.hid hpm
      have HPU := Lib.hid (put_any HT.out hpm.2.2.1 hpm.2.2.2.1 hpm.2.2.2.2 (HW.out.sl HB.out.size) (HW.out.ne hwt) (by omega))
      unfold PutPost at HPU
      rw [← hst] at HPU
      obtain ⟨m, hm⟩ : ∃ m, p.ns.length = m := ⟨_, rfl⟩
      unfold Opn.cells at HC
      rw [hm] at HC HPU HT HB
      obtain ⟨x, hx⟩ : ∃ x, (putO (madeO [] (l.take k)) p.key (p.acc, p.ns)).1 = x := ⟨_, rfl⟩
      rw [hx] at HPU
      clear hcs hck ep hb hm hst hpm hpl hbx ht hx
      go_wp2_with (first | (refine wpList_load_mid rfl 47 (.tmp 11) rfl b0 (o + k * 4) rfl [.int .i64 p.kind, .int .i64 p.key, .int .i64 p.acc, .slice p.a m p.cap] _ HC.out Try.underlying47 rfl info47 ?_))
      refine HPU.out.mono ?_
      rintro e w3 ⟨rfl, ht, ho⟩
      have HT3 := Lib.hid ht
      have HB3 := Lib.hid (below_only HB.out ho hwt hwb)
      clear ht ho
      go_wp2_with fail
      go_roundg g
      case measure => omega
      case rel => exact ⟨k + 1, by omega, by go_num, HT3.out, HB3.out⟩
    | zero =>
      have HF : Hid (MadeT w.heap.size w wr t b (madeO [] l)) := Lib.hid ⟨by rw [List.take_of_length_le (by omega)] at ht; exact ht, hwt, hwb, hb⟩
      clear ht hb
      go_wp2_with fail
      go_ret
      exact ⟨t, b, rfl, HF.out⟩
end Go.Proofs.Ytghpbhcnblninaa.tbl
