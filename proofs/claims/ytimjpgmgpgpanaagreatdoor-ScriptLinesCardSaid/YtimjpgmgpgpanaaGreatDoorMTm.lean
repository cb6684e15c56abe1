/- Telling, whoever listens: what tell does with words, with parts; with any expression that may be. What Line answers of any expression. The library's table of powers, as a row lists it. -/
import Derived.Test.YtimjpgmgpgpanaaGreatDoorMTl
import Derived.Deep.RegionHeld3
import Derived.Test.YtimjpgmgpgpanaaGreatDoorMEx
import Derived.Deep.RegionWith
section
namespace Go.Proofs.YtimjpgmgpgpanaaGreatDoor.exp
set_option linter.unusedSimpArgs false
set_option linter.unusedVariables false
open Go.RowKit nam lex

section
variable {B : Nat} {t : TypeId} {r : Value} {st : ByteArray → World → Prop}
set_option maxHeartbeats 1600000 in
set_option maxRecDepth 1000000 in
theorem tell_key (H : Hears B t r st) {x : Ex} (ho : x.op = 2) {w : World} {T : ByteArray} {b o : Nat} (hA : At w (fun k => k < B) b o x) (hst : st T w) (hsz : T.size + 40 * x.size ≤ 1000000000) :
    Calls Tryz.prog 83 #[.pointer (some ⟨b, o, none⟩), .iface t r] w fun e w' => e = .returned (.tuple #[]) ∧ st (x.tell T) w' ∧ Step B w w' := by
  obtain ⟨Kw, Kl, r1, r2, m0, m1, m2, f1, f2, HW, HL⟩ := H.fn
  obtain ⟨a, c, p0, p1, p2, _⟩ := hA.cells
  rw [ho] at p0
  push_cast at p0
  have eT : x.tell T = T ++ (⟨#[107, 101, 121]⟩ : ByteArray) := by
    rw [tell_eq]; unfold tellO
    simp only [ho, Nat.reduceEqDiff, if_false, if_true]; rfl
  rw [eT]
  have HP := Lib.hid (HW.out T ⟨#[107, 101, 121]⟩ w hst (by show T.size + 3 ≤ _; omega))
  clear hA hst hsz ho eT p1 p2 H HW HL
  go_enter Tryz.func83, Tryz.ntmps83
  go_wp2_with fail
  refine HP.out.mono ?_
  rintro e w1 ⟨rfl, h1, h2⟩
  have HZ := Lib.hid (And.intro h1 h2)
  clear h1 h2
  go_wp2_with fail
  go_end0
  exact ⟨rfl, HZ.out⟩
set_option maxHeartbeats 1600000 in
set_option maxRecDepth 1000000 in
theorem tell_val (H : Hears B t r st) {x : Ex} (ho : x.op = 3) {w : World} {T : ByteArray} {b o : Nat} (hA : At w (fun k => k < B) b o x) (hst : st T w) (hsz : T.size + 40 * x.size ≤ 1000000000) :
    Calls Tryz.prog 83 #[.pointer (some ⟨b, o, none⟩), .iface t r] w fun e w' => e = .returned (.tuple #[]) ∧ st (x.tell T) w' ∧ Step B w w' := by
  obtain ⟨Kw, Kl, r1, r2, m0, m1, m2, f1, f2, HW, HL⟩ := H.fn
  obtain ⟨a, c, p0, p1, p2, _⟩ := hA.cells
  rw [ho] at p0
  push_cast at p0
  have eT : x.tell T = T ++ (⟨#[118, 97, 108]⟩ : ByteArray) := by
    rw [tell_eq]; unfold tellO
    simp only [ho, Nat.reduceEqDiff, if_false, if_true]; rfl
  rw [eT]
  have HP := Lib.hid (HW.out T ⟨#[118, 97, 108]⟩ w hst (by show T.size + 3 ≤ _; omega))
  clear hA hst hsz ho eT p1 p2 H HW HL
  go_enter Tryz.func83, Tryz.ntmps83
  go_wp2_with fail
  refine HP.out.mono ?_
  rintro e w1 ⟨rfl, h1, h2⟩
  have HZ := Lib.hid (And.intro h1 h2)
  clear h1 h2
  go_wp2_with fail
  go_end0
  exact ⟨rfl, HZ.out⟩
set_option maxHeartbeats 1600000 in
set_option maxRecDepth 1000000 in
theorem tell_acc (H : Hears B t r st) {x : Ex} (ho : x.op = 4) {w : World} {T : ByteArray} {b o : Nat} (hA : At w (fun k => k < B) b o x) (hst : st T w) (hsz : T.size + 40 * x.size ≤ 1000000000) :
    Calls Tryz.prog 83 #[.pointer (some ⟨b, o, none⟩), .iface t r] w fun e w' => e = .returned (.tuple #[]) ∧ st (x.tell T) w' ∧ Step B w w' := by
  obtain ⟨Kw, Kl, r1, r2, m0, m1, m2, f1, f2, HW, HL⟩ := H.fn
  obtain ⟨a, c, p0, p1, p2, _⟩ := hA.cells
  rw [ho] at p0
  push_cast at p0
  have eT : x.tell T = T ++ (⟨#[97, 99, 99]⟩ : ByteArray) := by
    rw [tell_eq]; unfold tellO
    simp only [ho, Nat.reduceEqDiff, if_false, if_true]; rfl
  rw [eT]
  have HP := Lib.hid (HW.out T ⟨#[97, 99, 99]⟩ w hst (by show T.size + 3 ≤ _; omega))
  clear hA hst hsz ho eT p1 p2 H HW HL
  go_enter Tryz.func83, Tryz.ntmps83
  go_wp2_with fail
  refine HP.out.mono ?_
  rintro e w1 ⟨rfl, h1, h2⟩
  have HZ := Lib.hid (And.intro h1 h2)
  clear h1 h2
  go_wp2_with fail
  go_end0
  exact ⟨rfl, HZ.out⟩
set_option maxHeartbeats 1600000 in
set_option maxRecDepth 1000000 in
theorem tell_neg (H : Hears B t r st) {x : Ex} (hf : Fit x) (hn : Num x) (ho : x.op = 5) (ih : ∀ y ∈ x.args, TK y) {w : World} {T : ByteArray} {b o : Nat} (hA : At w (fun k => k < B) b o x) (hst : st T w) (htab : Tab B w) (hsz : T.size + 40 * x.size ≤ 1000000000) :
    Calls Tryz.prog 83 #[.pointer (some ⟨b, o, none⟩), .iface t r] w fun e w' => e = .returned (.tuple #[]) ∧ st (x.tell T) w' ∧ Step B w w' := by
  obtain ⟨a, c, p0, p1, p2, hL, _⟩ := hA.cells
  obtain ⟨W, hW⟩ : ∃ W, w.alloc (.cells #[.string ⟨#[40, 45]⟩] 9) = W := ⟨_, rfl⟩
  obtain ⟨N, hN⟩ : ∃ N, w.heap.size = N := ⟨_, rfl⟩
  have hbW : Below w.heap.size w W := by rw [← hW]; exact (Below.refl _ _).alloc (Nat.le_refl _) _
  have hg : Txs W N (aheads x.op) := by
    rw [ho]
    exact ⟨(0, 0), by rw [← hW, ← hN]; exact heap_alloc_new w _⟩
  have hlen : x.args.length = 1 := by
    have := aheads_len ((fit_eq x).1 hf).1 (by omega)
    rw [ho] at this
    exact this.symm
  have HR := Lib.hid (row_at H hf hn (by omega) ih hA hst htab hsz hL hbW (k := 1) hg)
  rw [ho] at p0
  push_cast at p0
  rw [hlen] at p2 HR
  push_cast at p2
  clear hA hst htab hsz ho p1 H hf hn ih hL hbW hg hlen
  go_enter Tryz.func83, Tryz.ntmps83
  go_wp2_with fail
  refine HR.out.mono ?_
  rintro e w1 ⟨rfl, h1, h2⟩
  have HZ := Lib.hid (And.intro h1 h2)
  clear h1 h2
  go_wp2_with fail
  go_end0
  exact ⟨rfl, HZ.out⟩
set_option maxHeartbeats 1600000 in
set_option maxRecDepth 1000000 in
theorem tell_not (H : Hears B t r st) {x : Ex} (hf : Fit x) (hn : Num x) (ho : x.op = 6) (ih : ∀ y ∈ x.args, TK y) {w : World} {T : ByteArray} {b o : Nat} (hA : At w (fun k => k < B) b o x) (hst : st T w) (htab : Tab B w) (hsz : T.size + 40 * x.size ≤ 1000000000) :
    Calls Tryz.prog 83 #[.pointer (some ⟨b, o, none⟩), .iface t r] w fun e w' => e = .returned (.tuple #[]) ∧ st (x.tell T) w' ∧ Step B w w' := by
  obtain ⟨a, c, p0, p1, p2, hL, _⟩ := hA.cells
  obtain ⟨W, hW⟩ : ∃ W, w.alloc (.cells #[.string ⟨#[40, 33]⟩] 9) = W := ⟨_, rfl⟩
  obtain ⟨N, hN⟩ : ∃ N, w.heap.size = N := ⟨_, rfl⟩
  have hbW : Below w.heap.size w W := by rw [← hW]; exact (Below.refl _ _).alloc (Nat.le_refl _) _
  have hg : Txs W N (aheads x.op) := by
    rw [ho]
    exact ⟨(0, 0), by rw [← hW, ← hN]; exact heap_alloc_new w _⟩
  have hlen : x.args.length = 1 := by
    have := aheads_len ((fit_eq x).1 hf).1 (by omega)
    rw [ho] at this
    exact this.symm
  have HR := Lib.hid (row_at H hf hn (by omega) ih hA hst htab hsz hL hbW (k := 1) hg)
  rw [ho] at p0
  push_cast at p0
  rw [hlen] at p2 HR
  push_cast at p2
  clear hA hst htab hsz ho p1 H hf hn ih hL hbW hg hlen
  go_enter Tryz.func83, Tryz.ntmps83
  go_wp2_with fail
  refine HR.out.mono ?_
  rintro e w1 ⟨rfl, h1, h2⟩
  have HZ := Lib.hid (And.intro h1 h2)
  clear h1 h2
  go_wp2_with fail
  go_end0
  exact ⟨rfl, HZ.out⟩
set_option maxHeartbeats 1600000 in
set_option maxRecDepth 1000000 in
theorem tell_if (H : Hears B t r st) {x : Ex} (hf : Fit x) (hn : Num x) (ho : x.op = 18) (ih : ∀ y ∈ x.args, TK y) {w : World} {T : ByteArray} {b o : Nat} (hA : At w (fun k => k < B) b o x) (hst : st T w) (htab : Tab B w) (hsz : T.size + 40 * x.size ≤ 1000000000) :
    Calls Tryz.prog 83 #[.pointer (some ⟨b, o, none⟩), .iface t r] w fun e w' => e = .returned (.tuple #[]) ∧ st (x.tell T) w' ∧ Step B w w' := by
  obtain ⟨a, c, p0, p1, p2, hL, _⟩ := hA.cells
  obtain ⟨W, hW⟩ : ∃ W, w.alloc (.cells #[.string ⟨#[40, 105, 102, 32]⟩, .string ⟨#[32, 116, 104, 101, 110, 32]⟩, .string ⟨#[32, 101, 108, 115, 101, 32]⟩] 9) = W := ⟨_, rfl⟩
  obtain ⟨N, hN⟩ : ∃ N, w.heap.size = N := ⟨_, rfl⟩
  have hbW : Below w.heap.size w W := by rw [← hW]; exact (Below.refl _ _).alloc (Nat.le_refl _) _
  have hg : Txs W N (aheads x.op) := by
    rw [ho]
    exact ⟨(0, 0), by rw [← hW, ← hN]; exact heap_alloc_new w _⟩
  have hlen : x.args.length = 3 := by
    have := aheads_len ((fit_eq x).1 hf).1 (by omega)
    rw [ho] at this
    exact this.symm
  have HR := Lib.hid (row_at H hf hn (by omega) ih hA hst htab hsz hL hbW (k := 3) hg)
  rw [ho] at p0
  push_cast at p0
  rw [hlen] at p2 HR
  push_cast at p2
  clear hA hst htab hsz ho p1 H hf hn ih hL hbW hg hlen
  go_enter Tryz.func83, Tryz.ntmps83
  go_wp2_with fail
  refine HR.out.mono ?_
  rintro e w1 ⟨rfl, h1, h2⟩
  have HZ := Lib.hid (And.intro h1 h2)
  clear h1 h2
  go_wp2_with fail
  go_end0
  exact ⟨rfl, HZ.out⟩
set_option maxHeartbeats 4000000 in
set_option maxRecDepth 1000000 in
theorem tell_two (H : Hears B t r st) {x : Ex} (hf : Fit x) (hn : Num x) (ho : 7 ≤ x.op ∧ x.op ≤ 17) (ih : ∀ y ∈ x.args, TK y) {w : World} {T : ByteArray} {b o : Nat} (hA : At w (fun k => k < B) b o x) (hst : st T w) (htab : Tab B w) (hsz : T.size + 40 * x.size ≤ 1000000000) :
    Calls Tryz.prog 83 #[.pointer (some ⟨b, o, none⟩), .iface t r] w fun e w' => e = .returned (.tuple #[]) ∧ st (x.tell T) w' ∧ Step B w w' := by
  obtain ⟨a, c, p0, p1, p2, hL, _⟩ := hA.cells
  have hlen : x.args.length = 2 := by
    have := aheads_len ((fit_eq x).1 hf).1 (by omega)
    unfold aheads at this
    rw [if_neg (by omega), if_neg (by omega), if_neg (by omega)] at this
    exact this.symm
  have HR : Hid (∀ W, Below w.heap.size w W → ∀ g, W.heap[g]? = some (.cells #[.string ⟨#[40]⟩, .string (textOf (sgnR x.op))] 9 (0, 0)) → Calls Tryz.prog 126 #[.slice a 2 c, .iface t r, .slice (some ⟨g, 0, none⟩) 2 2] W fun e w' => e = .returned (.tuple #[]) ∧ st (x.tell T) w' ∧ Step B w w') :=
    Lib.hid fun W hbW g hg => by
      have hg' : Txs W g (aheads x.op) := by
        unfold aheads
        rw [if_neg (by omega), if_neg (by omega), if_neg (by omega)]
        exact ⟨_, hg⟩
      have := row_at H hf hn (by omega) ih hA hst htab hsz hL hbW (k := 2) hg'
      rw [hlen] at this
      exact this
  have HS : Hid (∀ w', Calls Tryz.prog 127 #[.int .u8 (x.op : Int)] w' fun e w'' => e = .returned (.string (textOf (sgnR x.op))) ∧ w'' = w') := Lib.hid fun w' => sign_at x.op ho w'
  obtain ⟨q, hq⟩ : ∃ q : Int, (x.op : Int) = q := ⟨_, rfl⟩
  obtain ⟨X, hX⟩ : ∃ X, textOf (sgnR x.op) = X := ⟨_, rfl⟩
  obtain ⟨hq7, hq17⟩ : 7 ≤ q ∧ q ≤ 17 := by omega
  rw [hq] at p0 HS
  rw [hX] at HS HR
  rw [hlen] at p2
  push_cast at p2
  have hlt := hA.lt
  have hbB : b < B := by obtain ⟨_, _, h, _⟩ := hA; exact h
  have HC : Hid (∀ w', Below w.heap.size w w' → w'.cell? ⟨b, o, none⟩ = some (.int .u8 q) ∧ w'.cell? ⟨b, o + 2, none⟩ = some (.slice a 2 c)) := Lib.hid fun w' hw => ⟨(hw.cell (p := ⟨b, o, none⟩) hlt).trans p0, (hw.cell (p := ⟨b, o + 2, none⟩) hlt).trans p2⟩
  have HR0 : Hid (Below w.heap.size w w) := Lib.hid (Below.refl _ _)
  have d1 : (q == 1) = false := by simp; omega
  have d2 : (q == 2) = false := by simp; omega
  have d3 : (q == 3) = false := by simp; omega
  have d4 : (q == 4) = false := by simp; omega
  have d5 : (q == 5) = false := by simp; omega
  have d6 : (q == 6) = false := by simp; omega
  have d18 : (q == 18) = false := by simp; omega
  clear hA hst htab hsz ho p1 H hf hn ih hL hlen hq hX hq7 hq17 hlt
  go_enter Tryz.func83, Tryz.ntmps83
  go_upto_region 1 with fail
  go_region_held3 (fun w' => w'.cell? ⟨b, o, none⟩ = some (.int .u8 q) ∧ w'.cell? ⟨b, o + 2, none⟩ = some (.slice a 2 c)) (first | exact HC.out _ HR0.out.drew | exact HC.out _ (HR0.out.drew.alloc (Nat.le_refl _) _) | exact HC.out _ (HR0.out.alloc (Nat.le_refl _) _).drew | exact ⟨(hb4.below.cell (p := ⟨b, o, none⟩) hbB).trans p0, (hb4.below.cell (p := ⟨b, o + 2, none⟩) hbB).trans p2⟩) (first
    | (go_at_call 127; with_reducible refine (HS.out _).mono ?_; rintro e w3 ⟨rfl, rfl⟩)
    | (go_at_call 126; (with_reducible refine (HR.out _ ?_ _ ?_).mono ?_); (first | exact (HR0.out.drew.alloc (Nat.le_refl _) _) | exact (HR0.out.alloc (Nat.le_refl _) _).drew); exact heap_alloc_new w (.cells #[.string ⟨#[40]⟩, .string X] 9); rintro e w4 ⟨rfl, hs4, hb4⟩))
  all_goals (go_wp2_with fail; go_end0; exact ⟨rfl, hs4, hb4⟩)
theorem tell_any : ∀ x : Ex, Fit x → Num x → TK x := by
  refine Ex.ind fun x ih hf hn => ?_
  intro B t r st H w T b o hA hst htab hsz
  have hF := (fit_eq x).1 hf
  have hN := (num_eq x).1 hn
  have hB := hF.1
  rw [fitsB_iff'] at hB
  have hi : ∀ y ∈ x.args, TK y := fun y hy => ih y hy (hF.2 y hy) (hN.2 y hy)
  by_cases h1 : x.op = 1
  · exact tell_num H hn hB.1 h1 hA hst htab hsz
  by_cases h2 : x.op = 2
  · exact tell_key H h2 hA hst hsz
  by_cases h3 : x.op = 3
  · exact tell_val H h3 hA hst hsz
  by_cases h4 : x.op = 4
  · exact tell_acc H h4 hA hst hsz
  by_cases h5 : x.op = 5
  · exact tell_neg H hf hn h5 hi hA hst htab hsz
  by_cases h6 : x.op = 6
  · exact tell_not H hf hn h6 hi hA hst htab hsz
  by_cases h18 : x.op = 18
  · exact tell_if H hf hn h18 hi hA hst htab hsz
  · exact tell_two H hf hn (by omega) hi hA hst htab hsz
end
end Go.Proofs.YtimjpgmgpgpanaaGreatDoor.exp
end
section
namespace Go.Proofs.YtimjpgmgpgpanaaGreatDoor.exp
set_option linter.unusedSimpArgs false
set_option linter.unusedVariables false
open Go.RowKit nam lex

def lineS (x : Ex) : ByteArray := if good FM x 1 = true ∧ ¬ 400 < x.line.length then textOf x.line else ⟨#[]⟩
def lineC (x : Ex) : Int := if good FM x 1 = true then (if 400 < x.line.length then 110 else 0) else 2
theorem tab_up {B B' : Nat} {w w1 : World} (h : Tab B w) (hb : Below B w w1) (hB : B ≤ B') : Tab B' w1 := fun w' h' => h w' (hb.trans (h'.mono hB))
theorem none_app (s : ByteArray) : (⟨#[]⟩ : ByteArray) ++ s = s := by
  apply byteArray_ext
  rw [append_toList]; rfl
theorem line_pos {x : Ex} (hf : Fit x) : 1 ≤ x.line.length := by
  rw [line_eq]
  unfold lineO
  split
  · have := (digR_facts x.n.toNat).2.1
    cases h : digR x.n.toNat with
    | nil => exact absurd h this
    | cons a l => simp
  split
  · decide
  split
  · decide
  split
  · decide
  · cases h1 : aheads x.op with
    | nil => simp [weave]
    | cons s ss =>
      cases h2 : lines x.args with
      | nil => simp [weave]
      | cons a al =>
        rw [weave, List.length_append]
        have : s ≠ [] := by
          intro e
          subst e
          unfold aheads at h1
          repeat' split at h1
          all_goals (injection h1 with h3 h4; cases h3)
        cases s with
        | nil => exact absurd rfl this
        | cons c s => simp; omega
set_option maxRecDepth 1000000 in
theorem line_no {x : Ex} {v : Value} {F : Nat → Prop} {w : World} (hx : Lies w F v x.args) (hs : x.size ≤ 1000000) (hg : good FM x 1 = false) :
    Calls Tryz.prog 47 #[exV x v] w fun e w' => e = .returned (.tuple #[.string (lineS x), .int .i64 (lineC x)]) ∧ Below w.heap.size w w' := by
  have eS : lineS x = ⟨#[]⟩ := by unfold lineS; rw [hg, if_neg (by simp)]
  have eC : lineC x = 2 := by unfold lineC; rw [hg, if_neg (by simp)]
  rw [eS, eC]
  obtain ⟨W, hW⟩ : ∃ W, w.alloc (.cells #[.int .u8 (x.op : Int), .int .i64 x.n, v] 48) = W := ⟨_, rfl⟩
  obtain ⟨N, hN⟩ : ∃ N, w.heap.size = N := ⟨_, rfl⟩
  have hbW : Below w.heap.size w W := by rw [← hW]; exact (Below.refl _ _).alloc (Nat.le_refl _) _
  have hh : W.heap[N]? = some (.cells #[.int .u8 (x.op : Int), .int .i64 x.n, v] 48 (0, 0)) := by rw [← hW]; exact heap_last hN.symm
  have c0 := cell_of (o := 0) hh rfl
  have c1 := cell_of (o := 1) hh rfl
  have c2 := cell_of (o := 2) hh rfl
  have HM := Lib.hid (may_any (hx.under hbW) hs)
  rw [hg] at HM
  unfold exV at HM ⊢
  have HB := Lib.hid hbW
  clear hx hg eS eC hh hbW
  go_enter Tryz.func47, Tryz.ntmps47
  go_wp2_with fail
  refine HM.out.mono ?_
  rintro e w1 ⟨rfl, hb1⟩
  have HB1 := Lib.hid (HB.out.trans (hb1.mono HB.out.size))
  clear hb1
  go_wp2_with fail
  go_ret2
  exact ⟨rfl, HB1.out⟩
/-- What is there when the counter is made. -/
structure Lc (x : Ex) (w w1 w2 : World) (N B : Nat) : Prop where
  below : Below w.heap.size w w1
  low : w.heap.size ≤ B
  at_ : At w2 (fun k => k < B) N 0 x
  tab : Tab B w2
  here : B ≤ w2.heap.size
  two : Below w1.heap.size w1 w2
  B : w1.heap.size = B
theorem Lc.of {x : Ex} {v : Value} {w W w1 w2 : World} {N B : Nat} {o : Obj} {F : Nat → Prop} (htab : Tab w.heap.size w) (hx : Lies w F v x.args) (hW : Below w.heap.size w W) (hN : w.heap.size = N)
    (hh : W.heap[N]? = some (.cells #[.int .u8 (x.op : Int), .int .i64 x.n, v] 48 (0, 0))) (hb : Below W.heap.size W w1) (hB : w1.heap.size = B) (h2 : w1.alloc o = w2) : Lc x w w1 w2 N B := by
  have hlt := (Array.getElem?_eq_some_iff.1 hh).1
  have hwz := hW.size
  have hbz := hb.size
  have h12 : Below w1.heap.size w1 w2 := by rw [← h2]; exact (Below.refl _ _).alloc (Nat.le_refl _) _
  have hw1 : Below w.heap.size w w1 := hW.trans (hb.mono hwz)
  have hw2 : Below w.heap.size w w2 := hw1.trans (h12.mono (by omega))
  refine ⟨hw1, by omega, ?_, tab_up htab hw2 (by omega), by rw [← hB]; exact h12.size, h12, hB⟩
  have hN2 : w2.heap[N]? = some (.cells #[.int .u8 (x.op : Int), .int .i64 x.n, v] 48 (0, 0)) := ((h12.block N (by omega)).trans (hb.block N hlt)).trans hh
  exact ⟨_, v, by show N < B; omega, hN2, rfl, rfl, rfl, (hx.here.frame (fun b c hk _ => hw2.block b hk.2)).mono (fun b hk => by show b < B; omega)⟩
theorem Lc.next {x : Ex} {w w1 w2 w3 w4 : World} {N B B' : Nat} {o : Obj} (h : Lc x w w1 w2 N B) (hs : Step B w2 w3) (hB : w3.heap.size = B') (h2 : w3.alloc o = w4) : Lc x w w3 w4 N B' := by
  obtain ⟨a1, a2, a3, a4, a5, a6, a7⟩ := h
  have h34 : Below w3.heap.size w3 w4 := by rw [← h2]; exact (Below.refl _ _).alloc (Nat.le_refl _) _
  have hz := hs.below.size
  have h23 : Below B w2 w4 := hs.below.trans (h34.mono (by omega))
  refine ⟨(a1.trans (a6.mono (by omega))).trans (hs.below.mono a2), by omega, ?_, tab_up a4 h23 (by omega), by rw [← hB]; exact h34.size, h34, hB⟩
  exact (a3.frame (fun b c hk _ => h23.block b hk)).mono (fun b hk => by have : b < B := hk; show b < B'; omega)
set_option maxHeartbeats 4000000 in
set_option maxRecDepth 1000000 in
theorem line_yes {x : Ex} {v : Value} {F : Nat → Prop} {w : World} (hx : Lies w F v x.args) (hs : x.size ≤ 1000000) (hg : good FM x 1 = true) (hn : Num x) (htab : Tab w.heap.size w) :
    Calls Tryz.prog 47 #[exV x v] w fun e w' => e = .returned (.tuple #[.string (lineS x), .int .i64 (lineC x)]) ∧ Below w.heap.size w w' := by
  have hf := ((good_FM x 1).1 hg).2
  obtain ⟨hasc, htold⟩ := told_any x hf hn
  obtain ⟨t1, t2, t3⟩ := htold ⟨#[]⟩
  have z0 : (⟨#[]⟩ : ByteArray).size = 0 := rfl
  rw [z0] at t1 t2 t3
  obtain ⟨W, hW⟩ : ∃ W, w.alloc (.cells #[.int .u8 (x.op : Int), .int .i64 x.n, v] 48) = W := ⟨_, rfl⟩
  obtain ⟨N, hN⟩ : ∃ N, w.heap.size = N := ⟨_, rfl⟩
  have hbW : Below w.heap.size w W := by rw [← hW]; exact (Below.refl _ _).alloc (Nat.le_refl _) _
  have hh : W.heap[N]? = some (.cells #[.int .u8 (x.op : Int), .int .i64 x.n, v] 48 (0, 0)) := by rw [← hW]; exact heap_last hN.symm
  have c0 := cell_of (o := 0) hh rfl
  have c1 := cell_of (o := 1) hh rfl
  have c2 := cell_of (o := 2) hh rfl
  have HM := Lib.hid (may_any (hx.under hbW) hs)
  rw [hg] at HM
  have HL : Hid (∀ w1 w2 B o, Below W.heap.size W w1 → w1.heap.size = B → w1.alloc o = w2 → Lc x w w1 w2 N B) := Lib.hid fun w1 w2 B o h1 h2 h3 => Lc.of htab hx hbW hN hh h1 h2 h3
  have HT : Hid (∀ {B : Nat} {t : TypeId} {r : Value} {st : ByteArray → World → Prop}, Hears B t r st → ∀ {w : World}, At w (fun k => k < B) N 0 x → st ⟨#[]⟩ w → Tab B w → Calls Tryz.prog 83 #[.pointer (some ⟨N, 0, none⟩), .iface t r] w fun e w' => e = .returned (.tuple #[]) ∧ st (x.tell ⟨#[]⟩) w' ∧ Step B w w') :=
    Lib.hid fun H w h1 h2 h3 => tell_any x hf hn H h1 h2 h3 (by rw [z0]; omega)
  have HB := Lib.hid hbW
  unfold exV at HM ⊢
  have hpos := line_pos hf
  have eS : lineS x = if 400 < x.line.length then ⟨#[]⟩ else textOf x.line := by
    unfold lineS
    by_cases h : 400 < x.line.length
    · rw [if_neg (by simp [h]), if_pos h]
    · rw [if_pos ⟨hg, h⟩, if_neg h]
  have eC : lineC x = if 400 < x.line.length then 110 else 0 := by unfold lineC; rw [if_pos hg]
  rw [eS, eC]
  obtain ⟨T, hT⟩ : ∃ T, x.tell ⟨#[]⟩ = T := ⟨_, rfl⟩
  rw [hT] at t1 t2 t3
  simp only [hT] at HT
  by_cases hw : 400 < x.line.length
  · rw [if_pos hw, if_pos hw]
    have hwide : 400 < T.size := t2 (by omega)
    have HWI := Lib.hid hwide
    clear t1 t2 t3 hw hf hn hg hx htab hh hbW hpos eS eC htold hasc hwide hT
    go_enter Tryz.func47, Tryz.ntmps47
    go_wp2_with fail
    refine HM.out.mono ?_
    rintro e w1 ⟨rfl, hb1⟩
    obtain ⟨B, hB⟩ : ∃ B, w1.heap.size = B := ⟨_, rfl⟩
    obtain ⟨w2, hw2⟩ : ∃ w2, w1.alloc (.cells #[.int .i64 0] 125) = w2 := ⟨_, rfl⟩
    have hlc := HL.out w1 w2 B _ hb1 hB hw2
    have hcnt : Cnt B B ⟨#[]⟩ w2 := ⟨Nat.le_refl _, hlc.here, by rw [← hw2]; exact heap_last hB.symm⟩
    have HT1 := Lib.hid (HT.out (cnt_hears B B) hlc.at_ hcnt hlc.tab)
    have HLC := Lib.hid hlc
    clear hlc hcnt hb1
    go_wp2_with fail
    refine HT1.out.mono ?_
    rintro e w3 ⟨rfl, h3, hs3⟩
    have HWD := Lib.hid (wide_at (cnt_hears B B) h3)
    rw [decide_eq_true HWI.out] at HWD
    have HZ : Hid (Below w.heap.size w w3) := Lib.hid ((HLC.out.below.trans (HLC.out.two.mono (by have := HLC.out.low; have := HLC.out.B; omega))).trans (hs3.below.mono HLC.out.low))
    clear h3 hs3
    go_wp2_with fail
    refine HWD.out.mono ?_
    rintro e w4 ⟨rfl, rfl⟩
    go_wp2_with fail
    go_ret2
    exact ⟨rfl, HZ.out⟩
  · rw [if_neg hw, if_neg hw]
    have hfits : T = textOf x.line := by rw [t1 (by omega), none_app]
    have hsz : T.size = x.line.length := by rw [hfits, asc_size hasc]
    rw [← hfits]
    have hnar : ¬ 400 < T.size := by omega
    have HNW := Lib.hid hnar
    have HSZ : Hid (T.size ≠ 0) := Lib.hid (by omega)
    obtain ⟨L, hL⟩ : ∃ L, T.size = L := ⟨_, rfl⟩
    have hL4 : L ≤ 400 := by omega
    have HLL := Lib.hid hL
    clear t1 t2 t3 hw hf hn hg hx htab hh hbW hpos eS eC htold hasc hnar hT hfits hsz hL
    go_enter Tryz.func47, Tryz.ntmps47
    go_wp2_with fail
    refine HM.out.mono ?_
    rintro e w1 ⟨rfl, hb1⟩
    obtain ⟨B, hB⟩ : ∃ B, w1.heap.size = B := ⟨_, rfl⟩
    obtain ⟨w2, hw2⟩ : ∃ w2, w1.alloc (.cells #[.int .i64 0] 125) = w2 := ⟨_, rfl⟩
    have hlc := HL.out w1 w2 B _ hb1 hB hw2
    have hcnt : Cnt B B ⟨#[]⟩ w2 := ⟨Nat.le_refl _, hlc.here, by rw [← hw2]; exact heap_last hB.symm⟩
    have HT1 := Lib.hid (HT.out (cnt_hears B B) hlc.at_ hcnt hlc.tab)
    have HLC := Lib.hid hlc
    clear hlc hcnt hb1
    go_wp2_with fail
    refine HT1.out.mono ?_
    rintro e w3 ⟨rfl, h3, hs3⟩
    have HWD := Lib.hid (wide_at (cnt_hears B B) h3)
    rw [decide_eq_false HNW.out] at HWD
    obtain ⟨B', hB'⟩ : ∃ B, w3.heap.size = B := ⟨_, rfl⟩
    obtain ⟨w4, hw4⟩ : ∃ w4, w3.alloc (.cells #[.pointer none, .slice none 0 0] 130) = w4 := ⟨_, rfl⟩
    have hlc2 := HLC.out.next hs3 hB' hw4
    have HLC2 := Lib.hid hlc2
    have HCL := Lib.hid (cnt_len ((h3.keep hlc2.two).keep (Below.refl _ _).drew))
    rw [HLL.out] at HCL
    have hfr : w4.heap[B']? = some (.cells #[.pointer none, .slice none 0 0] 130 (0, 0)) := by rw [← hw4]; exact heap_last hB'.symm
    have HG := Lib.hid (wrt_grow (B := B') (b := B') (w := w4.drew) L (Nat.le_refl _) hfr hlc2.here (by omega))
    have HWW : Hid (Below B' w4 w4.drew) := Lib.hid (Below.refl _ _).drew
    clear h3 hs3 hlc2 hfr
    go_wp2_with fail
    refine HWD.out.mono ?_
    rintro e w3' ⟨rfl, rfl⟩
    go_wp2_with fail
    go_region_with (first
      | (go_at_call 85; refine HCL.out.mono ?_; rintro e w5 ⟨rfl, rfl⟩)
      | (go_at_call 34; refine HG.out.mono ?_; rintro e w6 ⟨rfl, hba, hb6⟩))
    all_goals
      have h46 : Below B' w4 w6 := HWW.out.trans hb6
      have hwr : Wrt B' B' ⟨#[]⟩ w6 := ⟨Nat.le_trans HLC2.out.here h46.size, .inr hba⟩
      have HT2 := Lib.hid (HT.out (wrt_hears B' B') (HLC2.out.at_.frame (fun b c hk _ => h46.block b hk)) hwr (tab_up HLC2.out.tab h46 (Nat.le_refl _)))
      have H46 := Lib.hid h46
      clear h46 hwr hba hb6
      go_wp2_with fail
      refine HT2.out.mono ?_
      rintro e w7 ⟨rfl, h7, hs7⟩
      have HST := Lib.hid (wrt_string h7 HSZ.out)
      have H47 := Lib.hid (H46.out.trans hs7.below)
      clear h7 hs7
      go_wp2_with fail
      refine HST.out.mono ?_
      rintro e w8 ⟨rfl, hb8⟩
      have HZ : Hid (Below w.heap.size w w8) := Lib.hid ((HLC2.out.below.trans (HLC2.out.two.mono (by have := HLC2.out.low; have := HLC2.out.B; omega))).trans ((H47.out.trans hb8).mono HLC2.out.low))
      clear hb8
      go_wp2_with fail
      go_ret2
      exact ⟨rfl, HZ.out⟩
end Go.Proofs.YtimjpgmgpgpanaaGreatDoor.exp
end
section
namespace Go.Proofs.YtimjpgmgpgpanaaGreatDoor.lex
/-- The library's table of powers stands. -/
def Tab (w : World) : Prop := Lib.TabIs Tryz.prog w "internal/strconv.uint64pow10" .u64 Lib.pow10Tab
end Go.Proofs.YtimjpgmgpgpanaaGreatDoor.lex
namespace Go.Proofs.YtimjpgmgpgpanaaGreatDoor.exp
theorem tab_of {w : World} (h : Go.Proofs.YtimjpgmgpgpanaaGreatDoor.lex.Tab w) : Go.Proofs.YtimjpgmgpgpanaaGreatDoor.exp.Tab w.heap.size w := Lib.tabBelow_of_tabIs h
end Go.Proofs.YtimjpgmgpgpanaaGreatDoor.exp
end
