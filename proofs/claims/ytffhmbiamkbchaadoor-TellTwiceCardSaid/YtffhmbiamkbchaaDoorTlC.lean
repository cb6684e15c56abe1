/- Telling, whoever listens: what row does, where its parts are told. -/
import Derived.Test.YtffhmbiamkbchaaDoorTlP
import Derived.Test.YtffhmbiamkbchaaDoorTlA
import Derived.Test.YtffhmbiamkbchaaDoorExM
import Derived.Deep.LoopGhost
import Derived.Deep.DeepCutAuto
namespace Go.Proofs.YtffhmbiamkbchaaDoor.exp
set_option linter.unusedSimpArgs false
set_option linter.unusedVariables false
open Go.RowKit nam lex

/-- Who listens keeps what it was told, and tells how long that is. -/
structure Hears (B : Nat) (t : TypeId) (r : Value) (st : ByteArray → World → Prop) : Prop where
  fn : ∃ (Kw Kl : FuncId) (r1 r2 : Value), (∀ w, (nilAhead 255 t r "WriteString").run Tryd.prog w = .ok (some false) w) ∧ (∀ w, (method 255 t r "WriteString").run Tryd.prog w = .ok (Kw, r1) w) ∧ (∀ w, (method 255 t r "Len").run Tryd.prog w = .ok (Kl, r2) w) ∧
    (∀ args w, (callFunc Kw args).run Tryd.prog w = .ok (.enter Kw args) w) ∧ (∀ args w, (callFunc Kl args).run Tryd.prog w = .ok (.enter Kl args) w) ∧
    Hid (∀ T s w, st T w → T.size + s.size ≤ 140737488355328 → Calls Tryd.prog Kw #[r1, .string s] w fun e w' => e = .returned (.tuple #[.int .i64 s.size, .nilIface]) ∧ st (T ++ s) w' ∧ Step B w w') ∧
    Hid (∀ T w, st T w → Calls Tryd.prog Kl #[r2] w fun e w' => e = .returned (.int .i64 (T.size : Int)) ∧ w' = w)
  keep : ∀ T w w', st T w → Below w.heap.size w w' → st T w'
  low : ∀ T w, st T w → B ≤ w.heap.size
theorem cnt_hears (B c : Nat) : Hears B 37 (.pointer (some ⟨c, 0, none⟩)) (Cnt B c) :=
  ⟨⟨122, 22, .pointer (some ⟨c, 0, none⟩), .pointer (some ⟨c, 0, none⟩), fun _ => by kernel_rfl, fun _ => by kernel_rfl, fun _ => by kernel_rfl,
    enters_of Tryd.func122 (by kernel_rfl) rfl, enters_of Tryd.func22 (by kernel_rfl) rfl, Lib.hid (fun T s w h hs => cnt_put h s hs), Lib.hid (fun T w h => cnt_len h)⟩, fun _ _ _ h hb => h.keep hb, fun _ _ h => h.2.1⟩
theorem wrt_hears (B b : Nat) : Hears B 43 (.pointer (some ⟨b, 0, none⟩)) (Wrt B b) :=
  ⟨⟨125, 123, .pointer (some ⟨b, 0, none⟩), .pointer (some ⟨b, 0, none⟩), fun _ => by kernel_rfl, fun _ => by kernel_rfl, fun _ => by kernel_rfl,
    enters_of Tryd.func125 (by kernel_rfl) rfl, enters_of Tryd.func123 (by kernel_rfl) rfl, Lib.hid (fun T s w h hs => wrt_put h s hs), Lib.hid (fun T w h => wrt_len h)⟩, fun _ _ _ h hb => h.keep hb, fun _ _ h => h.1⟩

section
variable {B : Nat} {t : TypeId} {r : Value} {st : ByteArray → World → Prop}
set_option maxRecDepth 1000000 in
theorem wide_at (H : Hears B t r st) {T : ByteArray} {w : World} (h : st T w) : Calls Tryd.prog 20 #[.iface t r] w fun e w' => e = .returned (.bool (decide (400 < T.size))) ∧ w' = w := by
  obtain ⟨Kw, Kl, r1, r2, m0, m1, m2, f1, f2, HW, HL⟩ := H.fn
  have HT := Lib.hid (HL.out T w h)
  go_enter Tryd.func20, Tryd.ntmps20
  go_wp2_with fail
  refine HT.out.mono ?_
  rintro e w' ⟨rfl, rfl⟩
  go_wp2_with fail
  go_ret
  exact ⟨ret_bool (by rw [Bool.eq_iff_iff, decide_eq_true_eq, decide_eq_true_eq]; omega), rfl⟩
/-- A row of texts. -/
def Txs (w : World) (g : Nat) (xs : List (List Nat)) : Prop := ∃ fr, w.heap[g]? = some (.cells (xs.map fun s => Value.string (textOf s)).toArray 9 fr)
theorem Txs.step {w w' : World} {g : Nat} {xs : List (List Nat)} (h : Txs w g xs) (hs : Step B w w') : Txs w' g xs := by
  obtain ⟨fr, h⟩ := h
  exact ⟨fr, (hs.same _ _ _ h).trans h⟩
theorem Txs.cell {w : World} {g i : Nat} {xs : List (List Nat)} (h : Txs w g xs) (hi : i < xs.length) : w.cell? ⟨g, i, none⟩ = some (.string (textOf xs[i])) := by
  obtain ⟨fr, h⟩ := h
  refine cell_of h ?_
  simp [hi]
theorem tab_step {w w' : World} (h : Tab B w) (hs : Step B w w') : Tab B w' := Lib.TabBelow.on h hs.below
theorem at_step {w w' : World} {b o : Nat} {x : Ex} (h : At w (fun k => k < B) b o x) (hs : Step B w w') : At w' (fun k => k < B) b o x := h.frame fun k c hk _ => hs.below.block k hk
theorem lies_step {w w' : World} {v : Value} {l : List Ex} (h : Lies w (fun k => k < B) v l) (hs : Step B w w') : Lies w' (fun k => k < B) v l := h.frame fun k c hk _ => hs.below.block k hk
/-- y's telling. -/
def TK (y : Ex) : Prop := ∀ {B : Nat} {t : TypeId} {r : Value} {st : ByteArray → World → Prop}, Hears B t r st → ∀ {w : World} {T : ByteArray} {b o : Nat}, At w (fun k => k < B) b o y → st T w → Tab B w → T.size + 40 * y.size ≤ 1000000000 →
  Calls Tryd.prog 19 #[.pointer (some ⟨b, o, none⟩), .iface t r] w fun e w' => e = .returned (.tuple #[]) ∧ st (y.tell T) w' ∧ Step B w w'
/-- What holds at each round's head. -/
structure RowIn (B : Nat) (st : ByteArray → World → Prop) (w : World) (ss : List (List Nat)) (l : List Ex) (T : ByteArray) (j : Nat) (Tj : ByteArray) (wr : World) : Prop where
  le : j ≤ l.length
  st : st Tj wr
  step : Step B w wr
  rest : weaveT (ss.drop j) (tellsL (l.drop j)) Tj = weaveT ss (tellsL l) T
  size : Tj.size + 40 * sizes (l.drop j) + 11 ≤ 1000000000
theorem drop_of {α : Type} {l : List α} {j : Nat} (h : j < l.length) : l.drop j = l[j] :: l.drop (j + 1) := List.drop_eq_getElem_cons h
theorem RowIn.next {w wr w1 : World} {ss : List (List Nat)} {l : List Ex} {T Tj : ByteArray} {j : Nat} (h : RowIn B st w ss l T j Tj wr) (h1 : j < ss.length) (h2 : j < l.length) (hn : ¬ 400 < Tj.size) (hs : Asc ss[j] ∧ ss[j].length ≤ 10) (ht : ∀ T, Told l[j] T)
    (hst : st (l[j].tell (Tj ++ textOf ss[j])) w1) (hb : Step B wr w1) : RowIn B st w ss l T (j + 1) (l[j].tell (Tj ++ textOf ss[j])) w1 := by
  obtain ⟨a1, a2, a3, a4, a5⟩ := h
  rw [drop_of h1, drop_of h2, tellsL_cons, weaveT, if_neg hn] at a4
  rw [drop_of h2, sizes_cons] at a5
  have := (ht (Tj ++ textOf ss[j])).most
  rw [app_size, asc_size hs.1] at this
  exact ⟨by omega, hst, a3.trans hb, a4, by omega⟩
theorem RowIn.wide {w wr : World} {ss : List (List Nat)} {l : List Ex} {T Tj : ByteArray} {j : Nat} (h : RowIn B st w ss l T j Tj wr) (h1 : j < ss.length) (h2 : j < l.length) (hn : 400 < Tj.size) : st (weaveT ss (tellsL l) T) wr := by
  obtain ⟨a1, a2, a3, a4, a5⟩ := h
  rw [drop_of h1, drop_of h2, tellsL_cons, weaveT, if_pos hn] at a4
  rw [← a4]; exact a2
theorem RowIn.done {w wr : World} {ss : List (List Nat)} {l : List Ex} {T Tj : ByteArray} {j : Nat} (h : RowIn B st w ss l T j Tj wr) (h1 : ss.length = l.length) (h2 : ¬ j < l.length) : Tj ++ textOf [41] = weaveT ss (tellsL l) T := by
  obtain ⟨a1, a2, a3, a4, a5⟩ := h
  rw [List.drop_eq_nil_of_le (by omega), List.drop_eq_nil_of_le (by omega), tellsL_nil] at a4
  exact a4
set_option maxHeartbeats 1600000 in
set_option maxRecDepth 1000000 in
theorem row_any (H : Hears B t r st) {l : List Ex} {ss : List (List Nat)} (hl : ss.length = l.length) (hs : ∀ s ∈ ss, Asc s ∧ s.length ≤ 10) (hk : ∀ y ∈ l, TK y ∧ ∀ T, Told y T) {w : World} {T : ByteArray} {a : Option Addr} {c g k : Nat} (hL : Lies w (fun k => k < B) (.slice a l.length c) l) (hg : Txs w g ss)
    (hst : st T w) (htab : Tab B w) (hsz : T.size + 40 * sizes l + 11 ≤ 1000000000) :
    Calls Tryd.prog 40 #[.slice a l.length c, .iface t r, .slice (some ⟨g, 0, none⟩) l.length k] w fun e w' => e = .returned (.tuple #[]) ∧ st (weaveT ss (tellsL l) T) w' ∧ Step B w w' := by
  have hH := H
  obtain ⟨Kw, Kl, r1, r2, m0, m1, m2, f1, f2, HW, HL⟩ := H.fn
  have HH := Lib.hid H
  have HS := Lib.hid hs; have HK := Lib.hid hk; have HLL := Lib.hid hL; have HG := Lib.hid hg; have HTAB := Lib.hid htab; have HLS := Lib.hid hl
  have HIN : Hid (RowIn B st w ss l T 0 T w) := Lib.hid ⟨Nat.zero_le _, hst, Step.refl B w, rfl, by simpa using hsz⟩
  obtain ⟨n, hn⟩ : ∃ n, l.length = n := ⟨_, rfl⟩
  have HN := Lib.hid hn
  have hn9 : n ≤ 1000000000 := by have := sizes_len l; omega
  rw [hn]
  clear hs hk hL hg htab hl hst hsz hH H hn
  go_enter Tryd.func40, Tryd.ntmps40
  go_wp2_with fail
  go_loopg [10] n (fun gk v10 wr => ∃ (j : Nat) (Tj : ByteArray), j + gk = n ∧ v10 = .int .i64 (j : Int) ∧ RowIn B st w ss l T j Tj wr)
  case atStart => exact ⟨0, T, by omega, rfl, HIN.out⟩
  case round =>
    rename World => wr
    obtain ⟨j, Tj, hj, rfl, hin⟩ := hrel
    have HI := Lib.hid hin
    by_cases hjn : j < n
    · have hji : (j : Int) < (n : Int) := by omega
      have hj1 : j < ss.length := by rw [HLS.out, HN.out]; exact hjn
      have hj2 : j < l.length := by rw [HN.out]; exact hjn
      have hc := ((HG.out.step hin.step).cell hj1)
      obtain ⟨S, hS⟩ : ∃ S, ss[j] = S := ⟨_, rfl⟩
      obtain ⟨Y, hY⟩ : ∃ Y, l[j] = Y := ⟨_, rfl⟩
      obtain ⟨X, hX⟩ : ∃ X, textOf S = X := ⟨_, rfl⟩
      rw [hS, hX] at hc
      have HWD := Lib.hid (wide_at HH.out hin.st)
      by_cases hwd : 400 < Tj.size
      · rw [decide_eq_true hwd] at HWD
        have HE := Lib.hid (hin.wide hj1 hj2 hwd)
        clear hin hwd hS hY hX hj1 hj2
        go_wp2_with fail
        refine HWD.out.mono ?_
        rintro e w' ⟨rfl, rfl⟩
        go_wp2_with fail
        try rw [Exit.noGoto_ret]
        exact bodyPost_ret (results_none rfl _ _ _) rfl ⟨rfl, HE.out, HI.out.step⟩
      · rw [decide_eq_false hwd] at HWD
        obtain ⟨hs1, hs2⟩ := HS.out ss[j] (List.getElem_mem hj1)
        obtain ⟨hk1, hk2⟩ := HK.out l[j] (List.getElem_mem hj2)
        rw [hS] at hs1 hs2
        rw [hY] at hk1 hk2
        have hzz := hin.size
        rw [drop_of hj2, sizes_cons, hY] at hzz
        have hxs : X.size = S.length := by rw [← hX, asc_size hs1]
        have hap : (Tj ++ X).size = Tj.size + X.size := app_size _ _
        have HP := Lib.hid (HW.out Tj X wr hin.st (by omega))
        obtain ⟨a', c', hac, hfm⟩ := (lies_step HLL.out hin.step).form
        obtain ⟨rfl, rfl⟩ : a = a' ∧ c = c' := by simpa using hac
        obtain ⟨b1, rfl, hat⟩ := hfm (by omega)
        have hb1 := hat j hj2
        rw [hY] at hb1
        have HT : Hid (∀ w1, st (Tj ++ X) w1 → Step B wr w1 → Calls Tryd.prog 19 #[.pointer (some ⟨b1, j * 3, none⟩), .iface t r] w1 fun e w' => e = .returned (.tuple #[]) ∧ RowIn B st w ss l T (j + 1) (Y.tell (Tj ++ X)) w') := Lib.hid (fun w1 h1 h2 =>
          (hk1 HH.out (at_step hb1 h2) h1 (tab_step (tab_step HTAB.out hin.step) h2) (by omega)).mono fun e w' h => ⟨h.1, by
            have hz := RowIn.next hin hj1 hj2 hwd (by rw [hS]; exact ⟨hs1, hs2⟩) (by rw [hY]; exact hk2) (w1 := w') (by rw [hY, hS, hX]; exact h.2.1) (h2.trans h.2.2)
            rw [hY, hS, hX] at hz
            exact hz⟩)
        clear hin hwd hS hY hX hj1 hj2 hs1 hs2 hk1 hk2 hzz hxs hap hb1 hat hfm
        go_wp2_with fail
        refine HWD.out.mono ?_
        rintro e w' ⟨rfl, rfl⟩
        go_wp2_with fail
        refine HP.out.mono ?_
        rintro e w1 ⟨rfl, h1, h2⟩
        have HT1 := Lib.hid (HT.out w1 h1 h2)
        clear h1 h2
        go_wp2_with fail
        refine HT1.out.mono ?_
        rintro e w2 ⟨rfl, h3⟩
        have HR := Lib.hid h3
        clear h3
        go_wp2_with fail
        go_roundg (gk - 1)
        case rel => exact ⟨j + 1, _, by omega, by go_num, HR.out⟩
        case measure => omega
    · have hji : ¬ (j : Int) < (n : Int) := by omega
      have hap : (Tj ++ textOf [41]).size = Tj.size + 1 := by rw [app_size, shut1]
      have hzz := hin.size
      have HP := Lib.hid (HW.out Tj (textOf [41]) wr hin.st (by rw [shut1]; omega))
      have HD := Lib.hid (hin.done HLS.out (by rw [HN.out]; exact hjn))
      rw [show textOf [41] = (⟨#[41]⟩ : ByteArray) from rfl] at HP HD
      clear hin hjn hap hzz
      go_wp2_with fail
      refine HP.out.mono ?_
      rintro e w1 ⟨rfl, h1, h2⟩
      rw [HD.out] at h1
      have HZ := Lib.hid (And.intro h1 (HI.out.step.trans h2))
      clear h1 h2
      go_wp2_with fail
      try rw [Exit.noGoto_ret]
      go_end0
      exact ⟨rfl, HZ.out⟩
end
end Go.Proofs.YtffhmbiamkbchaaDoor.exp
