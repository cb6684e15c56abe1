/- Telling, whoever listens: what tell does with words, with parts; with any expression that may be. -/
import Derived.Test.YtffhmbiamkbchaaDoorTlD
import Derived.Deep.RegionHeld3
namespace Go.Proofs.YtffhmbiamkbchaaDoor.exp
set_option linter.unusedSimpArgs false
set_option linter.unusedVariables false
open Go.RowKit nam lex

section
variable {B : Nat} {t : TypeId} {r : Value} {st : ByteArray → World → Prop}
set_option maxHeartbeats 1600000 in
set_option maxRecDepth 1000000 in
theorem tell_key (H : Hears B t r st) {x : Ex} (ho : x.op = 2) {w : World} {T : ByteArray} {b o : Nat} (hA : At w (fun k => k < B) b o x) (hst : st T w) (hsz : T.size + 40 * x.size ≤ 1000000000) :
    Calls Tryd.prog 19 #[.pointer (some ⟨b, o, none⟩), .iface t r] w fun e w' => e = .returned (.tuple #[]) ∧ st (x.tell T) w' ∧ Step B w w' := by
  obtain ⟨Kw, Kl, r1, r2, m0, m1, m2, f1, f2, HW, HL⟩ := H.fn
  obtain ⟨a, c, p0, p1, p2, _⟩ := hA.cells
  rw [ho] at p0
  push_cast at p0
  have eT : x.tell T = T ++ (⟨#[107, 101, 121]⟩ : ByteArray) := by
    rw [tell_eq]; unfold tellO
    simp only [ho, Nat.reduceEqDiff, if_false, if_true]; rfl
  rw [eT]
  have HP := Lib.hid (HW.out T ⟨#[107, 101, 121]⟩ w hst (by show T.size + 3 ≤ _; omega))
  clear hA hst hsz ho eT p1 p2 H HW HL
  go_enter Tryd.func19, Tryd.ntmps19
  go_wp2_with fail
  refine HP.out.mono ?_
  rintro e w1 ⟨rfl, h1, h2⟩
  have HZ := Lib.hid (And.intro h1 h2)
  clear h1 h2
  go_wp2_with fail
  go_end0
  exact ⟨rfl, HZ.out⟩
set_option maxHeartbeats 1600000 in
set_option maxRecDepth 1000000 in
theorem tell_val (H : Hears B t r st) {x : Ex} (ho : x.op = 3) {w : World} {T : ByteArray} {b o : Nat} (hA : At w (fun k => k < B) b o x) (hst : st T w) (hsz : T.size + 40 * x.size ≤ 1000000000) :
    Calls Tryd.prog 19 #[.pointer (some ⟨b, o, none⟩), .iface t r] w fun e w' => e = .returned (.tuple #[]) ∧ st (x.tell T) w' ∧ Step B w w' := by
  obtain ⟨Kw, Kl, r1, r2, m0, m1, m2, f1, f2, HW, HL⟩ := H.fn
  obtain ⟨a, c, p0, p1, p2, _⟩ := hA.cells
  rw [ho] at p0
  push_cast at p0
  have eT : x.tell T = T ++ (⟨#[118, 97, 108]⟩ : ByteArray) := by
    rw [tell_eq]; unfold tellO
    simp only [ho, Nat.reduceEqDiff, if_false, if_true]; rfl
  rw [eT]
  have HP := Lib.hid (HW.out T ⟨#[118, 97, 108]⟩ w hst (by show T.size + 3 ≤ _; omega))
  clear hA hst hsz ho eT p1 p2 H HW HL
  go_enter Tryd.func19, Tryd.ntmps19
  go_wp2_with fail
  refine HP.out.mono ?_
  rintro e w1 ⟨rfl, h1, h2⟩
  have HZ := Lib.hid (And.intro h1 h2)
  clear h1 h2
  go_wp2_with fail
  go_end0
  exact ⟨rfl, HZ.out⟩
set_option maxHeartbeats 1600000 in
set_option maxRecDepth 1000000 in
theorem tell_acc (H : Hears B t r st) {x : Ex} (ho : x.op = 4) {w : World} {T : ByteArray} {b o : Nat} (hA : At w (fun k => k < B) b o x) (hst : st T w) (hsz : T.size + 40 * x.size ≤ 1000000000) :
    Calls Tryd.prog 19 #[.pointer (some ⟨b, o, none⟩), .iface t r] w fun e w' => e = .returned (.tuple #[]) ∧ st (x.tell T) w' ∧ Step B w w' := by
  obtain ⟨Kw, Kl, r1, r2, m0, m1, m2, f1, f2, HW, HL⟩ := H.fn
  obtain ⟨a, c, p0, p1, p2, _⟩ := hA.cells
  rw [ho] at p0
  push_cast at p0
  have eT : x.tell T = T ++ (⟨#[97, 99, 99]⟩ : ByteArray) := by
    rw [tell_eq]; unfold tellO
    simp only [ho, Nat.reduceEqDiff, if_false, if_true]; rfl
  rw [eT]
  have HP := Lib.hid (HW.out T ⟨#[97, 99, 99]⟩ w hst (by show T.size + 3 ≤ _; omega))
  clear hA hst hsz ho eT p1 p2 H HW HL
  go_enter Tryd.func19, Tryd.ntmps19
  go_wp2_with fail
  refine HP.out.mono ?_
  rintro e w1 ⟨rfl, h1, h2⟩
  have HZ := Lib.hid (And.intro h1 h2)
  clear h1 h2
  go_wp2_with fail
  go_end0
  exact ⟨rfl, HZ.out⟩
set_option maxHeartbeats 1600000 in
set_option maxRecDepth 1000000 in
theorem tell_neg (H : Hears B t r st) {x : Ex} (hf : Fit x) (hn : Num x) (ho : x.op = 5) (ih : ∀ y ∈ x.args, TK y) {w : World} {T : ByteArray} {b o : Nat} (hA : At w (fun k => k < B) b o x) (hst : st T w) (htab : Tab B w) (hsz : T.size + 40 * x.size ≤ 1000000000) :
    Calls Tryd.prog 19 #[.pointer (some ⟨b, o, none⟩), .iface t r] w fun e w' => e = .returned (.tuple #[]) ∧ st (x.tell T) w' ∧ Step B w w' := by
  obtain ⟨a, c, p0, p1, p2, hL, _⟩ := hA.cells
  obtain ⟨W, hW⟩ : ∃ W, w.alloc (.cells #[.string ⟨#[40, 45]⟩] 9) = W := ⟨_, rfl⟩
  obtain ⟨N, hN⟩ : ∃ N, w.heap.size = N := ⟨_, rfl⟩
  have hbW : Below w.heap.size w W := by rw [← hW]; exact (Below.refl _ _).alloc (Nat.le_refl _) _
  have hg : Txs W N (aheads x.op) := by
    rw [ho]
    exact ⟨(0, 0), by rw [← hW, ← hN]; exact heap_alloc_new w _⟩
  have hlen : x.args.length = 1 := by
    have := aheads_len ((fit_eq x).1 hf).1 (by omega)
    rw [ho] at this
    exact this.symm
  have HR := Lib.hid (row_at H hf hn (by omega) ih hA hst htab hsz hL hbW (k := 1) hg)
  rw [ho] at p0
  push_cast at p0
  rw [hlen] at p2 HR
  push_cast at p2
  clear hA hst htab hsz ho p1 H hf hn ih hL hbW hg hlen
  go_enter Tryd.func19, Tryd.ntmps19
  go_wp2_with fail
  refine HR.out.mono ?_
  rintro e w1 ⟨rfl, h1, h2⟩
  have HZ := Lib.hid (And.intro h1 h2)
  clear h1 h2
  go_wp2_with fail
  go_end0
  exact ⟨rfl, HZ.out⟩
set_option maxHeartbeats 1600000 in
set_option maxRecDepth 1000000 in
theorem tell_not (H : Hears B t r st) {x : Ex} (hf : Fit x) (hn : Num x) (ho : x.op = 6) (ih : ∀ y ∈ x.args, TK y) {w : World} {T : ByteArray} {b o : Nat} (hA : At w (fun k => k < B) b o x) (hst : st T w) (htab : Tab B w) (hsz : T.size + 40 * x.size ≤ 1000000000) :
    Calls Tryd.prog 19 #[.pointer (some ⟨b, o, none⟩), .iface t r] w fun e w' => e = .returned (.tuple #[]) ∧ st (x.tell T) w' ∧ Step B w w' := by
  obtain ⟨a, c, p0, p1, p2, hL, _⟩ := hA.cells
  obtain ⟨W, hW⟩ : ∃ W, w.alloc (.cells #[.string ⟨#[40, 33]⟩] 9) = W := ⟨_, rfl⟩
  obtain ⟨N, hN⟩ : ∃ N, w.heap.size = N := ⟨_, rfl⟩
  have hbW : Below w.heap.size w W := by rw [← hW]; exact (Below.refl _ _).alloc (Nat.le_refl _) _
  have hg : Txs W N (aheads x.op) := by
    rw [ho]
    exact ⟨(0, 0), by rw [← hW, ← hN]; exact heap_alloc_new w _⟩
  have hlen : x.args.length = 1 := by
    have := aheads_len ((fit_eq x).1 hf).1 (by omega)
    rw [ho] at this
    exact this.symm
  have HR := Lib.hid (row_at H hf hn (by omega) ih hA hst htab hsz hL hbW (k := 1) hg)
  rw [ho] at p0
  push_cast at p0
  rw [hlen] at p2 HR
  push_cast at p2
  clear hA hst htab hsz ho p1 H hf hn ih hL hbW hg hlen
  go_enter Tryd.func19, Tryd.ntmps19
  go_wp2_with fail
  refine HR.out.mono ?_
  rintro e w1 ⟨rfl, h1, h2⟩
  have HZ := Lib.hid (And.intro h1 h2)
  clear h1 h2
  go_wp2_with fail
  go_end0
  exact ⟨rfl, HZ.out⟩
set_option maxHeartbeats 1600000 in
set_option maxRecDepth 1000000 in
theorem tell_if (H : Hears B t r st) {x : Ex} (hf : Fit x) (hn : Num x) (ho : x.op = 18) (ih : ∀ y ∈ x.args, TK y) {w : World} {T : ByteArray} {b o : Nat} (hA : At w (fun k => k < B) b o x) (hst : st T w) (htab : Tab B w) (hsz : T.size + 40 * x.size ≤ 1000000000) :
    Calls Tryd.prog 19 #[.pointer (some ⟨b, o, none⟩), .iface t r] w fun e w' => e = .returned (.tuple #[]) ∧ st (x.tell T) w' ∧ Step B w w' := by
  obtain ⟨a, c, p0, p1, p2, hL, _⟩ := hA.cells
  obtain ⟨W, hW⟩ : ∃ W, w.alloc (.cells #[.string ⟨#[40, 105, 102, 32]⟩, .string ⟨#[32, 116, 104, 101, 110, 32]⟩, .string ⟨#[32, 101, 108, 115, 101, 32]⟩] 9) = W := ⟨_, rfl⟩
  obtain ⟨N, hN⟩ : ∃ N, w.heap.size = N := ⟨_, rfl⟩
  have hbW : Below w.heap.size w W := by rw [← hW]; exact (Below.refl _ _).alloc (Nat.le_refl _) _
  have hg : Txs W N (aheads x.op) := by
    rw [ho]
    exact ⟨(0, 0), by rw [← hW, ← hN]; exact heap_alloc_new w _⟩
  have hlen : x.args.length = 3 := by
    have := aheads_len ((fit_eq x).1 hf).1 (by omega)
    rw [ho] at this
    exact this.symm
  have HR := Lib.hid (row_at H hf hn (by omega) ih hA hst htab hsz hL hbW (k := 3) hg)
  rw [ho] at p0
  push_cast at p0
  rw [hlen] at p2 HR
  push_cast at p2
  clear hA hst htab hsz ho p1 H hf hn ih hL hbW hg hlen
  go_enter Tryd.func19, Tryd.ntmps19
  go_wp2_with fail
  refine HR.out.mono ?_
  rintro e w1 ⟨rfl, h1, h2⟩
  have HZ := Lib.hid (And.intro h1 h2)
  clear h1 h2
  go_wp2_with fail
  go_end0
  exact ⟨rfl, HZ.out⟩
set_option maxHeartbeats 4000000 in
set_option maxRecDepth 1000000 in
theorem tell_two (H : Hears B t r st) {x : Ex} (hf : Fit x) (hn : Num x) (ho : 7 ≤ x.op ∧ x.op ≤ 17) (ih : ∀ y ∈ x.args, TK y) {w : World} {T : ByteArray} {b o : Nat} (hA : At w (fun k => k < B) b o x) (hst : st T w) (htab : Tab B w) (hsz : T.size + 40 * x.size ≤ 1000000000) :
    Calls Tryd.prog 19 #[.pointer (some ⟨b, o, none⟩), .iface t r] w fun e w' => e = .returned (.tuple #[]) ∧ st (x.tell T) w' ∧ Step B w w' := by
  obtain ⟨a, c, p0, p1, p2, hL, _⟩ := hA.cells
  have hlen : x.args.length = 2 := by
    have := aheads_len ((fit_eq x).1 hf).1 (by omega)
    unfold aheads at this
    rw [if_neg (by omega), if_neg (by omega), if_neg (by omega)] at this
    exact this.symm
  have HR : Hid (∀ W, Below w.heap.size w W → ∀ g, W.heap[g]? = some (.cells #[.string ⟨#[40]⟩, .string (textOf (sgnR x.op))] 9 (0, 0)) → Calls Tryd.prog 40 #[.slice a 2 c, .iface t r, .slice (some ⟨g, 0, none⟩) 2 2] W fun e w' => e = .returned (.tuple #[]) ∧ st (x.tell T) w' ∧ Step B w w') :=
    Lib.hid fun W hbW g hg => by
      have hg' : Txs W g (aheads x.op) := by
        unfold aheads
        rw [if_neg (by omega), if_neg (by omega), if_neg (by omega)]
        exact ⟨_, hg⟩
      have := row_at H hf hn (by omega) ih hA hst htab hsz hL hbW (k := 2) hg'
      rw [hlen] at this
      exact this
  have HS : Hid (∀ w', Calls Tryd.prog 41 #[.int .u8 (x.op : Int)] w' fun e w'' => e = .returned (.string (textOf (sgnR x.op))) ∧ w'' = w') := Lib.hid fun w' => sign_at x.op ho w'
  obtain ⟨q, hq⟩ : ∃ q : Int, (x.op : Int) = q := ⟨_, rfl⟩
  obtain ⟨X, hX⟩ : ∃ X, textOf (sgnR x.op) = X := ⟨_, rfl⟩
  obtain ⟨hq7, hq17⟩ : 7 ≤ q ∧ q ≤ 17 := by omega
  rw [hq] at p0 HS
  rw [hX] at HS HR
  rw [hlen] at p2
  push_cast at p2
  have hlt := hA.lt
  have hbB : b < B := by obtain ⟨_, _, h, _⟩ := hA; exact h
  have HC : Hid (∀ w', Below w.heap.size w w' → w'.cell? ⟨b, o, none⟩ = some (.int .u8 q) ∧ w'.cell? ⟨b, o + 2, none⟩ = some (.slice a 2 c)) := Lib.hid fun w' hw => ⟨(hw.cell (p := ⟨b, o, none⟩) hlt).trans p0, (hw.cell (p := ⟨b, o + 2, none⟩) hlt).trans p2⟩
  have HR0 : Hid (Below w.heap.size w w) := Lib.hid (Below.refl _ _)
  have d1 : (q == 1) = false := by simp; omega
  have d2 : (q == 2) = false := by simp; omega
  have d3 : (q == 3) = false := by simp; omega
  have d4 : (q == 4) = false := by simp; omega
  have d5 : (q == 5) = false := by simp; omega
  have d6 : (q == 6) = false := by simp; omega
  have d18 : (q == 18) = false := by simp; omega
  clear hA hst htab hsz ho p1 H hf hn ih hL hlen hq hX hq7 hq17 hlt
  go_enter Tryd.func19, Tryd.ntmps19
  go_upto_region 1 with fail
  go_region_held3 (fun w' => w'.cell? ⟨b, o, none⟩ = some (.int .u8 q) ∧ w'.cell? ⟨b, o + 2, none⟩ = some (.slice a 2 c)) (first | exact HC.out _ HR0.out.drew | exact HC.out _ (HR0.out.drew.alloc (Nat.le_refl _) _) | exact HC.out _ (HR0.out.alloc (Nat.le_refl _) _).drew | exact ⟨(hb4.below.cell (p := ⟨b, o, none⟩) hbB).trans p0, (hb4.below.cell (p := ⟨b, o + 2, none⟩) hbB).trans p2⟩) (first
    | (go_at_call 41; with_reducible refine (HS.out _).mono ?_; rintro e w3 ⟨rfl, rfl⟩)
    | (go_at_call 40; (with_reducible refine (HR.out _ ?_ _ ?_).mono ?_); (first | exact (HR0.out.drew.alloc (Nat.le_refl _) _) | exact (HR0.out.alloc (Nat.le_refl _) _).drew); exact heap_alloc_new w (.cells #[.string ⟨#[40]⟩, .string X] 9); rintro e w4 ⟨rfl, hs4, hb4⟩))
  all_goals (go_wp2_with fail; go_end0; exact ⟨rfl, hs4, hb4⟩)
theorem tell_any : ∀ x : Ex, Fit x → Num x → TK x := by
  refine Ex.ind fun x ih hf hn => ?_
  intro B t r st H w T b o hA hst htab hsz
  have hF := (fit_eq x).1 hf
  have hN := (num_eq x).1 hn
  have hB := hF.1
  rw [fitsB_iff'] at hB
  have hi : ∀ y ∈ x.args, TK y := fun y hy => ih y hy (hF.2 y hy) (hN.2 y hy)
  by_cases h1 : x.op = 1
  · exact tell_num H hn hB.1 h1 hA hst htab hsz
  by_cases h2 : x.op = 2
  · exact tell_key H h2 hA hst hsz
  by_cases h3 : x.op = 3
  · exact tell_val H h3 hA hst hsz
  by_cases h4 : x.op = 4
  · exact tell_acc H h4 hA hst hsz
  by_cases h5 : x.op = 5
  · exact tell_neg H hf hn h5 hi hA hst htab hsz
  by_cases h6 : x.op = 6
  · exact tell_not H hf hn h6 hi hA hst htab hsz
  by_cases h18 : x.op = 18
  · exact tell_if H hf hn h18 hi hA hst htab hsz
  · exact tell_two H hf hn (by omega) hi hA hst htab hsz
end
end Go.Proofs.YtffhmbiamkbchaaDoor.exp
