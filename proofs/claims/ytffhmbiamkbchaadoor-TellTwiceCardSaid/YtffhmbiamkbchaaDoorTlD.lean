/- Telling, whoever listens: what tell does. -/
import Derived.Test.YtffhmbiamkbchaaDoorTlC
import Derived.Deep.RegionHeld3
namespace Go.Proofs.YtffhmbiamkbchaaDoor.exp
set_option linter.unusedSimpArgs false
set_option linter.unusedVariables false
open Go.RowKit nam lex

set_option maxRecDepth 1000000 in
theorem sign_at (o : Nat) (h : 7 ≤ o ∧ o ≤ 17) (w : World) : Calls Tryd.prog 41 #[.int .u8 (o : Int)] w fun e w' => e = .returned (.string (textOf (sgnR o))) ∧ w' = w := by
  rcases (show o = 7 ∨ o = 8 ∨ o = 9 ∨ o = 10 ∨ o = 11 ∨ o = 12 ∨ o = 13 ∨ o = 14 ∨ o = 15 ∨ o = 16 ∨ o = 17 by omega) with h | h | h | h | h | h | h | h | h | h | h <;> subst h <;> push_cast
  all_goals (go_enter Tryd.func41, Tryd.ntmps41; go_wp2; go_ret; exact ⟨rfl, rfl⟩)
section
variable {B : Nat} {t : TypeId} {r : Value} {st : ByteArray → World → Prop}
/-- What row does with an expression's parts. -/
theorem row_at (H : Hears B t r st) {x : Ex} (hf : Fit x) (hn : Num x) (h4 : 4 < x.op) (ih : ∀ y ∈ x.args, TK y) {w : World} {T : ByteArray} {b o : Nat} (hA : At w (fun k => k < B) b o x) (hst : st T w) (htab : Tab B w) (hsz : T.size + 40 * x.size ≤ 1000000000)
    {a : Option Addr} {c : Nat} (hL : Lies w (fun k => k < B) (.slice a x.args.length c) x.args) {W : World} (hW : Below w.heap.size w W) {g k : Nat} (hg : Txs W g (aheads x.op)) :
    Calls Tryd.prog 40 #[.slice a x.args.length c, .iface t r, .slice (some ⟨g, 0, none⟩) x.args.length k] W fun e w' => e = .returned (.tuple #[]) ∧ st (x.tell T) w' ∧ Step B w w' := by
  have hF := (fit_eq x).1 hf
  have hN := (num_eq x).1 hn
  have hs := Step.of (B := B) hW (H.low _ _ hst)
  have eT : x.tell T = weaveT (aheads x.op) (tellsL x.args) T := by
    rw [tell_eq]; unfold tellO
    rw [if_neg (by omega), if_neg (by omega), if_neg (by omega), if_neg (by omega)]
  have hse := size_eq x
  refine (row_any H (aheads_len hF.1 h4) (aheads_ok _) (fun y hy => ⟨ih y hy, (told_any y (hF.2 y hy) (hN.2 y hy)).2⟩) (lies_step hL hs) hg (H.keep _ _ _ hst hW) (tab_step htab hs) (by omega)).mono ?_
  rintro e w' ⟨rfl, h1, h2⟩
  exact ⟨rfl, by rw [eT]; exact h1, hs.trans h2⟩
set_option maxHeartbeats 1600000 in
set_option maxRecDepth 1000000 in
theorem tell_num (H : Hears B t r st) {x : Ex} (hn : Num x) (hp : 0 ≤ x.n) (ho : x.op = 1) {w : World} {T : ByteArray} {b o : Nat} (hA : At w (fun k => k < B) b o x) (hst : st T w) (htab : Tab B w) (hsz : T.size + 40 * x.size ≤ 1000000000) :
    Calls Tryd.prog 19 #[.pointer (some ⟨b, o, none⟩), .iface t r] w fun e w' => e = .returned (.tuple #[]) ∧ st (x.tell T) w' ∧ Step B w w' := by
  obtain ⟨Kw, Kl, r1, r2, m0, m1, m2, f1, f2, HW, HL⟩ := H.fn
  obtain ⟨a, c, p0, p1, p2, _⟩ := hA.cells
  rw [ho] at p0
  push_cast at p0
  have hm := ((num_eq x).1 hn).1
  obtain ⟨u, hu⟩ : ∃ u : Nat, x.n = u := ⟨x.n.toNat, by omega⟩
  have eT : x.tell T = T ++ textOf (digR u) := by
    rw [tell_eq]; unfold tellO
    rw [if_pos ho, hu, Int.toNat_natCast]
  have hd := digR_len (u := u) (by omega)
  have hds := asc_size (asc_dig u)
  rw [hu] at p1
  obtain ⟨X, hX⟩ : ∃ X, textOf (digR u) = X := ⟨_, rfl⟩
  rw [eT, hX]
  rw [hX] at hds
  have H0 : Hid (∀ w', Below w.heap.size w w' → Calls Tryd.prog 39 #[.int .i64 (u : Int), .int .i64 10] w' fun e w'' => e = .returned (.string X) ∧ Below w.heap.size w w'') :=
    Lib.hid fun w' hw => (fmt_any (tab_step htab (Step.of hw (H.low _ _ hst))) u (by omega)).mono fun e w'' h => ⟨by rw [h.1, hX], hw.trans (h.2.mono hw.size)⟩
  have H1 : Hid (∀ w', Below w.heap.size w w' → Calls Tryd.prog Kw #[r1, .string X] w' fun e w'' => e = .returned (.tuple #[.int .i64 X.size, .nilIface]) ∧ st (T ++ X) w'' ∧ Step B w w'') :=
    Lib.hid fun w' hw => (HW.out T X w' (H.keep _ _ _ hst hw) (by omega)).mono fun e w'' h => ⟨h.1, h.2.1, (Step.of hw (H.low _ _ hst)).trans h.2.2⟩
  have hlt := hA.lt
  have HC : Hid (∀ w', Below w.heap.size w w' → w'.cell? ⟨b, o + 1, none⟩ = some (.int .i64 (u : Int))) := Lib.hid fun w' hw => (hw.cell (p := ⟨b, o + 1, none⟩) hlt).trans p1
  have HC2 : Hid (∀ w', Step B w w' → w'.cell? ⟨b, o + 1, none⟩ = some (.int .i64 (u : Int))) := Lib.hid fun w' hw => (hw.below.cell (p := ⟨b, o + 1, none⟩) (by obtain ⟨_, _, h, _⟩ := hA; exact h)).trans p1
  have HR : Hid (Below w.heap.size w w) := Lib.hid (Below.refl _ _)
  clear hA hst htab hsz hn hp ho hm hu eT hd hds hX p2 hlt H HW HL
  go_enter Tryd.func19, Tryd.ntmps19
  go_upto_region 3 with fail
  go_region_held3 (fun w' => w'.cell? ⟨b, o + 1, none⟩ = some (.int .i64 (u : Int))) (first | exact HC.out _ HR.out.drew | exact HC.out _ hb3 | exact HC2.out _ hb4) (first
    | (with_reducible refine (H0.out _ ?_).mono ?_; exact HR.out.drew; rintro e w3 ⟨rfl, hb3⟩)
    | (with_reducible refine (H1.out _ ?_).mono ?_; exact hb3; rintro e w4 ⟨rfl, hs4, hb4⟩))
  all_goals (go_wp2_with fail; go_end0; exact ⟨rfl, hs4, hb4⟩)
end
end Go.Proofs.YtffhmbiamkbchaaDoor.exp
