/- A row of calls that came in; whether they are too many; all files of a disk that is on. -/
import Derived.Test.YtdajpaigahhhcaaO
import Derived.Test.YtdajpaigahhhcaaSl
import Derived.Deep.AppendLies
namespace Go.Proofs.Ytdajpaigahhhcaa.dsk
set_option linter.unusedSimpArgs false
set_option linter.unusedVariables false
open Go.RowKit

/-- A call: what it is, its file, its two numbers, its text. -/
structure Opn where
  kind : Int
  f : Int
  n : Int
  m : Int
  s : ByteArray
/-- Numbers that a machine has. -/
def fit (n : Int) : Prop := -9223372036854775808 ≤ n ∧ n ≤ 9223372036854775807
def Opn.fit (o : Opn) : Prop := dsk.fit o.kind ∧ dsk.fit o.f ∧ dsk.fit o.n ∧ dsk.fit o.m ∧ o.s.size ≤ maxLen
def Opn.cells (o : Opn) : List Value := [.int .i64 o.kind, .int .i64 o.f, .int .i64 o.n, .int .i64 o.m, .string o.s]
def noOp : Opn := ⟨7, 0, 0, 0, empty⟩
/-- A slice, nil or not, whose calls are l, below block B. -/
def Ops (w : World) (B : Nat) (a : Option Addr) (l : List Opn) : Prop :=
  l ≠ [] → ∃ b o, a = some ⟨b, o, none⟩ ∧ b < B ∧ ∀ j, j < l.length → w.rangeAt b (o + j * 5) (l.getD j noOp).cells
theorem Ops.below {w w' : World} {B : Nat} {a : Option Addr} {l : List Opn} (h : Ops w B a l) (hb : Below B w w') : Ops w' B a l := fun hl => by
  obtain ⟨b, o, e, hlt, hc⟩ := h hl
  refine ⟨b, o, e, hlt, fun j hj k v hk => ?_⟩
  exact (hb.cell (p := ⟨b, o + j * 5 + k, none⟩) hlt).trans (hc j hj k v hk)
theorem rangeAt5 {w : World} {b o : Nat} {p : Opn} (h : w.rangeAt b o p.cells) :
    w.cell? ⟨b, o, none⟩ = some (.int .i64 p.kind) ∧ w.cell? ⟨b, o + 1, none⟩ = some (.int .i64 p.f) ∧ w.cell? ⟨b, o + 2, none⟩ = some (.int .i64 p.n) ∧ w.cell? ⟨b, o + 3, none⟩ = some (.int .i64 p.m) ∧ w.cell? ⟨b, o + 4, none⟩ = some (.string p.s) :=
  ⟨h 0 _ rfl, h 1 _ rfl, h 2 _ rfl, h 3 _ rfl, h 4 _ rfl⟩

def HeavyRel (w : World) (l : List Opn) (u i : Value) (wr : World) : Prop :=
  ∃ (k : Nat) (n : Int), k ≤ l.length ∧ i = .int .i64 k ∧ u = .int .i64 n ∧ 0 ≤ n ∧ n ≤ 262144 ∧ Below w.heap.size w wr
theorem info41 : (Try.prog.info? 41).map (·.size) = some 5 := by kernel_rfl
set_option maxHeartbeats 1600000 in
set_option maxRecDepth 100000 in
/-- Heavy says no only of at most 300 calls. -/
theorem heavy_any (l : List Opn) (a : Option Addr) (cap : Nat) (w : World) (hr : Ops w w.heap.size a l) (hl : l.length ≤ cap) (hc : l.length ≤ 9223372036854775807) :
    Calls Try.prog 21 #[.slice a l.length cap] w fun e w' => (∃ h, e = .returned (.bool h) ∧ (h = false → l.length ≤ 300)) ∧ Below w.heap.size w w' := by
  have HR := Lib.hid hr
  clear hr
  go_enter Try.func21, Try.ntmps21
  go_wp2_with fail
  go_loopw [3, 8] (fun u i wr => HeavyRel w l u i wr) (fun _ i _ => l.length - (intOf i).toNat)
  case atStart => exact ⟨0, 0, Nat.zero_le _, rfl, rfl, by omega, by omega, Below.refl _ _⟩
  case round =>
    obtain ⟨k, n, hk, rfl, rfl, hn0, hn1, hb⟩ := hrel
    by_cases hlt : k < l.length
    · obtain ⟨b, o, rfl, hbl, hcs⟩ := HR.out (by rintro rfl; simp at hlt)
      obtain ⟨p, ep⟩ : ∃ p, l.getD k noOp = p := ⟨_, rfl⟩
      have hck : wr.rangeAt b (o + k * 5) p.cells := by
        intro j v hv
        rw [← ep] at hv
        exact (hb.cell (p := ⟨b, o + k * 5 + j, none⟩) hbl).trans (hcs k hlt j v hv)
      have HC := Lib.hid hck
      have HB := Lib.hid hb
      have hsz := hb.size
      clear hcs hck ep hb
      obtain ⟨q, hq⟩ : ∃ q, min (p.s.size : Int) 262144 = q := ⟨_, rfl⟩
      have hq0 : 0 ≤ q := by rw [← hq]; exact Int.le_min.2 ⟨by omega, by decide⟩
      have hq1 : q ≤ 262144 := by rw [← hq]; exact Int.min_le_right _ _
      by_cases hbig : 262144 < n + q
      · go_wp2_with (first | (refine wpList_load_mid rfl 41 (.tmp 10) rfl b (o + k * 5) rfl [.int .i64 p.kind, .int .i64 p.f, .int .i64 p.n, .int .i64 p.m, .string p.s] _ HC.out Try.underlying41 rfl info41 ?_))
        go_ret
        exact ⟨⟨_, rfl, fun h => by simp at h⟩, (HB.out.alloc hsz _)⟩
      · have hbig' : n + q ≤ 262144 := by omega
        clear hbig
        go_wp2_with (first | (refine wpList_load_mid rfl 41 (.tmp 10) rfl b (o + k * 5) rfl [.int .i64 p.kind, .int .i64 p.f, .int .i64 p.n, .int .i64 p.m, .string p.s] _ HC.out Try.underlying41 rfl info41 ?_))
        go_roundw
        case rel => exact ⟨k + 1, n + q, by omega, by go_num, rfl, by omega, hbig', (HB.out.alloc hsz _)⟩
        case measure => simp [intOf]; omega
    · have HB := Lib.hid hb
      clear hb
      by_cases h3 : 300 < l.length
      · have h3' : (300 : Int) < (l.length : Int) := by omega
        have H3 := Lib.hid h3
        clear h3
        go_wp2_with fail
        go_ret
        exact ⟨⟨_, rfl, fun h => by simp at h⟩, HB.out⟩
      · have h3' : (l.length : Int) ≤ 300 := by omega
        have H3 := Lib.hid h3
        clear h3
        go_wp2_with fail
        go_ret
        exact ⟨⟨_, rfl, fun _ => by have := H3.out; omega⟩, HB.out⟩

theorem own_below {W W' : World} {B e size n : Nat} {v : Value} {xs : List Value} (h : W.ownsRow B e size v n xs) (hb : Below W.heap.size W W') : W'.ownsRow B e size v n xs :=
  h.kept (row := none) ⟨hb.os, hb.tape, hb.output, hb.size, fun k hk _ => hb.block k hk⟩ (by cases hv : v.ownBlock <;> simp)
theorem cell_one_new (w : World) (x : Value) (t : TypeId) : ∀ j u, [x][j]? = some u → (w.alloc (.cells #[x] t)).cell? ((⟨w.heap.size, 0, none⟩ : Addr).add j) = some u := by
  intro j u hj
  match j, hj with
  | 0, hj => simp at hj; subst hj; simp [Addr.add]
  | (j + 1), hj => simp at hj
theorem info9 : (Try.prog.info? 9).map (fun i => (i.zero, i.size, i.bytes)) = some (some (.string ⟨#[]⟩), 1, 16) := by kernel_rfl

/-- The files of f, the first k. -/
def firsts (f : Files) (k : Nat) : List ByteArray := (List.range k).map f
theorem firsts_length (f : Files) (k : Nat) : (firsts f k).length = k := by simp [firsts]
theorem firsts_succ (f : Files) (k : Nat) : firsts f (k + 1) = firsts f k ++ [f k] := by simp [firsts, List.range_succ]
def AllRel (w : World) (f : Files) (u i : Value) (wr : World) : Prop :=
  ∃ k : Nat, k ≤ 16 ∧ i = .int .i64 k ∧ wr.ownsRow w.heap.size 9 1 u k ((firsts f k).map Value.string) ∧ Below w.heap.size w wr
/-- All files of a disk that is on, as a row that is the caller's. -/
def AllPost (f : Files) (w : World) (e : Ending) (w' : World) : Prop :=
  ∃ v, e = .returned v ∧ w'.ownsRow w.heap.size 9 1 v 16 ((firsts f 16).map Value.string) ∧ Below w.heap.size w w'
theorem read_fine {x : D} (ho : x.off = false) (k : Nat) (hk : k < 16) {s : ByteArray} (hs : x.now k = s) : x.read k = (s, 0) := by
  unfold D.read
  have hf : isFile (k : Int) = true := isFile_iff.2 ⟨by omega, by omega⟩
  rw [if_neg (by rw [ho]; decide), if_neg (by rw [hf]; decide), ← hs]
  rfl
theorem all_more {w w1 w2 : World} {f : Files} {k : Nat} {s : ByteArray} {o : Obj} {r : Option Nat} {v4 v5 : Value} (hs : f k = s) (hk : k < 16) (hro : ∀ j, r = some j → w.heap.size ≤ j)
    (h2 : w2.ownsRow w.heap.size 9 1 v4 (k + 1) ((firsts f k).map Value.string ++ [.string s])) (g2 : (w1.alloc o).grownBy w2 r) (hb : Below w.heap.size w w1) (hv : v5 = .int .i64 (k + 1 : Nat)) : AllRel w f v4 v5 w2 := by
  refine ⟨k + 1, by omega, hv, ?_, (hb.alloc hb.size _).grown g2 (by rw [World.size_alloc]; have := hb.size; omega) hro⟩
  rw [firsts_succ, List.map_append, hs]
  exact h2
set_option maxHeartbeats 1600000 in
set_option maxRecDepth 100000 in
theorem all_at {x : D} {f : Files} (hf : x.now = f) (ho : x.off = false) (w : World) (F : Nat → Prop) (d : Nat) (hx : IsDisk w F d x) : Calls Try.prog 27 #[ptr d 0] w (AllPost f w) := by
  subst hf
  obtain ⟨i0, hi, hz0, hz1, hz2⟩ := info_parts info9
  have HX := Lib.hid hx
  have HO := Lib.hid ho
  clear hx ho
  go_enter Try.func27, Try.ntmps27
  go_wp2_with fail
  go_loopw [3, 7] (fun u i wr => AllRel w x.now u i wr) (fun _ i _ => 16 - (intOf i).toNat)
  case atStart => exact ⟨0, by omega, rfl, World.ownsRow_nil _ _ _ _, Below.refl _ _⟩
  case round =>
    obtain ⟨k, hk, rfl, hown, hb⟩ := hrel
    by_cases hlt : k < 16
    · obtain ⟨s, es⟩ : ∃ s, x.now k = s := ⟨_, rfl⟩
      have HR := Lib.hid (read_fine HO.out k hlt es)
      have HD := Lib.hid (HX.out.below hb)
      have HL := Lib.hid (fun j hj => (hown.lt j hj).1)
      have HOW := Lib.hid hown
      have HB := Lib.hid hb
      have HES := Lib.hid es
      have HSZ : Hid (∀ w1 o, Below wr.heap.size wr w1 → w.heap.size ≤ (w1.alloc o).heap.size) := Lib.hid (fun w1 o h1 => by rw [World.size_alloc]; have := hb.size; have := h1.size; omega)
      clear hown hb es
      go_wp2_with fail
      refine (read_at HR.out _ F d HD.out).mono ?_
      rintro e w1 ⟨rfl, hb1⟩
      have HO1 := Lib.hid (own_below HOW.out hb1)
      have HB1 := Lib.hid hb1
      have HB2 := Lib.hid (HB.out.trans (hb1.mono HB.out.size))
      clear hb1
      go_wp2_with (at_builtin; refine wpList_append_own _ rfl (.tmp 16) (.tmp 18) 48 rfl w.heap.size 9 i0 (.string ⟨#[]⟩) 1 16 Try.underlying48 hi hz0 hz1 hz2 rfl (by decide) _ _ _ rfl (HO1.out.alloc _) ⟨_, 0, none⟩ 1 1 [.string s] rfl rfl (cell_one_new _ _ _) (by simp [Value.oneCell']) (by unfold maxLen; omega) (by omega) (HSZ.out _ _ HB1.out) ?_)
      intro v4 w2 k4 g4 _
      have HM := Lib.hid (fun (v5 : Value) (hv : v5 = .int .i64 (k + 1 : Nat)) => all_more HES.out hlt HL.out k4 g4 HB2.out hv)
      clear k4 g4
      go_wp2
      go_roundw
      case rel => exact HM.out _ (by go_num)
      case measure => simp [intOf]; omega
    · obtain rfl : k = 16 := by omega
      have HOW := Lib.hid hown
      have HB := Lib.hid hb
      clear hown hb
      go_wp2_with fail
      go_ret
      exact ⟨_, rfl, HOW.out, HB.out⟩
end Go.Proofs.Ytdajpaigahhhcaa.dsk
