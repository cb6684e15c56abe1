/- The reference's rules while it went wrong before: nothing more happens. The reference's row: what is known at each round's head. -/
import Derived.Test.YtffhmbiamkbchaaDoorExRc
section
namespace Go.Proofs.YtffhmbiamkbchaaDoor.exp
set_option linter.unusedSimpArgs false
set_option linter.unusedVariables false
open Go.RowKit nam lex

/-- A tree of whatever comes, and the reader is as it was. -/
def OffPost (S : Src) (i : Nat) (bd : Int) (w : World) (e : Ending) (w' : World) : Prop :=
  ∃ (A N : Int) (p : Option Addr) (n c : Nat), e = .returned (.agg #[.int .u8 A, .int .i64 N, .slice p n c]) ∧ Rt S w' i bd ∧ Below w.heap.size w w'
def wZero (w : World) : World := w.alloc (.cells #[.int .u8 0, .int .i64 0, .slice none 0 0] 27)
set_option maxHeartbeats 1600000 in
set_option maxRecDepth 1000000 in
theorem one_off {S : Src} {w : World} {i : Nat} {bd : Int} (h : Rt S w i bd) (hb : ¬ bd < 0) : Calls Tryd.prog 62 #[ptr S.rb] w (OffPost S i bd w) := by
  obtain ⟨W, hW⟩ : ∃ W, w.alloc (.cells #[.int .u8 0, .int .i64 0, .slice none 0 0] 27) = W := ⟨_, rfl⟩
  obtain ⟨N0, hN0⟩ : ∃ N, w.heap.size = N := ⟨_, rfl⟩
  have hwb : Below w.heap.size w W := by rw [← hW]; exact (Below.refl _ _).alloc (Nat.le_refl _) _
  have hbx : Bx W N0 0 0 none 0 0 := by rw [← hW]; exact heap_last hN0.symm
  obtain ⟨W2, hW2⟩ : ∃ W2, W.alloc (.cells #[.int .u8 0, .int .i64 0, .slice none 0 0] 27) = W2 := ⟨_, rfl⟩
  obtain ⟨N1, hN1⟩ : ∃ N, W.heap.size = N := ⟨_, rfl⟩
  have hwb2 : Below W.heap.size W W2 := by rw [← hW2]; exact (Below.refl _ _).alloc (Nat.le_refl _) _
  have hbx2 : Bx W2 N1 0 0 none 0 0 := by rw [← hW2]; exact heap_last hN1.symm
  have hbx1 := hbx.under hwb2
  have hwbb := hwb.trans (hwb2.mono hwb.size)
  obtain ⟨c0, c1, c2, c3, f1, f3⟩ := (h.under hwbb).cells
  obtain ⟨x0, x1, x2, y0, y1, y2⟩ := hbx1.cells
  obtain ⟨z0, z1, z2, _⟩ := hbx2.cells
  have HR := Lib.hid (h.under hwbb)
  have hne : N0 ≠ N1 := by have := hW ▸ hN1; rw [World.size_alloc] at this; omega
  have hne' : N1 ≠ N0 := fun e => hne e.symm
  have hfin : Below w.heap.size w (set3 (set3 W2 N1 0 0 none 0 0) N0 0 0 none 0 0) := only_none (set3_only (set3_only (F := fun _ => False) (Only.of_below hwbb) (b := N1) (A := 0) (N := 0) (p := none) (n := 0) (c := 0) (by have := hwb.size; omega)) (b := N0) (A := 0) (N := 0) (p := none) (n := 0) (c := 0) (by omega)) (fun k h => h)
  have HP : Hid (OffPost S i bd w (.returned (.agg #[.int .u8 0, .int .i64 0, .slice none 0 0])) (set3 (set3 W2 N1 0 0 none 0 0) N0 0 0 none 0 0)) := Lib.hid ⟨0, 0, none, 0, 0, rfl, h.under hfin, hfin⟩
  clear hfin
  have hb1 : 0 ≤ bd := by omega
  have hb2 : bd ≥ 0 := by omega
  unfold ptr
  clear h hwb hbx hwb2 hbx2 hbx1 hwbb
  go_enter Tryd.func62, Tryd.ntmps62
  go_wp2_with fail
  refine bodyPost_ret (v := .agg #[.int .u8 0, .int .i64 0, .slice none 0 0]) (by simp [results, Tryd.f62, go_sem, x0, x1, x2]) rfl HP.out

/-- A result's box, made before, filled behind. -/
theorem off_fill {S : Src} {i : Nat} {bd A N : Int} {p : Option Addr} {n c N0 : Nat} {w w' : World} (h : Rt S w i bd) (hb : Below w.heap.size w w') (hN : w.heap.size ≤ N0) : OffPost S i bd w (.returned (.agg #[.int .u8 A, .int .i64 N, .slice p n c])) (set3 w' N0 A N p n c) := by
  have h2 : Below w.heap.size w (set3 w' N0 A N p n c) := only_none (set3_only (F := fun _ => False) (Only.of_below hb) (b := N0) (A := A) (N := N) (p := p) (n := n) (c := c) hN) (fun k h => h)
  exact ⟨A, N, p, n, c, rfl, h.under h2, h2⟩
set_option maxHeartbeats 1600000 in
set_option maxRecDepth 1000000 in
theorem unary_off {S : Src} {w : World} {i : Nat} {bd : Int} (h : Rt S w i bd) (hb : ¬ bd < 0) : Calls Tryd.prog 47 #[ptr S.rb] w (OffPost S i bd w) := by
  obtain ⟨W, hW⟩ : ∃ W, w.alloc (.cells #[.int .u8 0, .int .i64 0, .slice none 0 0] 27) = W := ⟨_, rfl⟩
  obtain ⟨N0, hN0⟩ : ∃ N, w.heap.size = N := ⟨_, rfl⟩
  have hwb : Below w.heap.size w W := by rw [← hW]; exact (Below.refl _ _).alloc (Nat.le_refl _) _
  have hbx : Bx W N0 0 0 none 0 0 := by rw [← hW]; exact heap_last hN0.symm
  have hno : ∀ t, isB bd (S.at i) t = false := fun t => by unfold isB; simp [hb]
  have HI : Hid (∀ (w : World), Rt S w i bd → Calls Tryd.prog 61 #[ptr S.rb, .string ⟨#[45]⟩] w fun e w' => e = .returned (.bool false) ∧ Below w.heap.size w w') := Lib.hid fun w h => by have := ref_is h (t := [45]) (okl (by decide)) (by decide) (T := ⟨#[45]⟩) rfl; rw [hno] at this; exact this
  have HJ : Hid (∀ (w : World), Rt S w i bd → Calls Tryd.prog 61 #[ptr S.rb, .string ⟨#[33]⟩] w fun e w' => e = .returned (.bool false) ∧ Below w.heap.size w w') := Lib.hid fun w h => by have := ref_is h (t := [33]) (okl (by decide)) (by decide) (T := ⟨#[33]⟩) rfl; rw [hno] at this; exact this
  have HR := Lib.hid (h.under hwb); have HB := Lib.hid hwb; have HX := Lib.hid hbx; have H0 := Lib.hid h
  have HN : Hid (w.heap.size ≤ N0) := Lib.hid (by omega)
  have HO := Lib.hid (fun w h => one_off (S := S) (w := w) (i := i) (bd := bd) h hb)
  unfold ptr at *
  clear h hwb hbx hno
  go_enter Tryd.func47, Tryd.ntmps47
  go_wp2_with fail
  refine (HI.out _ HR.out).mono ?_
  rintro e w1 ⟨rfl, hb1⟩
  have HR1 := Lib.hid (HR.out.under hb1); have HX1 := Lib.hid (HX.out.under hb1)
  have HB1 := Lib.hid (HB.out.trans (hb1.mono HB.out.size))
  clear hb1
  go_wp2_with fail
  refine (HJ.out _ HR1.out).mono ?_
  rintro e w2 ⟨rfl, hb1⟩
  have HR2 := Lib.hid (HR1.out.under hb1); have HX2 := Lib.hid (HX1.out.under hb1)
  have HB2 := Lib.hid (HB1.out.trans (hb1.mono HB1.out.size))
  clear hb1
  go_wp2_with fail
  refine (HO.out _ HR2.out).mono ?_
  rintro e w3 ⟨A, M, p, n, c, rfl, hr3, hb1⟩
  obtain ⟨x0, x1, x2, y0, y1, y2⟩ := (HX2.out.under hb1).cells
  have HP := Lib.hid (off_fill (A := A) (N := M) (p := p) (n := n) (c := c) H0.out (HB2.out.trans (hb1.mono HB2.out.size)) HN.out)
  clear hb1 hr3
  go_wp2_with fail
  refine bodyPost_ret (v := .agg #[.int .u8 A, .int .i64 M, .slice p n c]) (by simp [results, Tryd.f47, go_sem, x0, x1, x2]) rfl HP.out
set_option maxHeartbeats 1600000 in
set_option maxRecDepth 1000000 in
theorem row_off {S : Src} {i : Nat} {bd : Int} (hb : ¬ bd < 0) : ∀ (k r : Nat), r + k = 5 → ∀ {w : World}, Rt S w i bd → Calls Tryd.prog 28 #[ptr S.rb, .int .i64 (r : Int)] w (OffPost S i bd w)
  | k, r, hr, w, h => by
    obtain ⟨W, hW⟩ : ∃ W, w.alloc (.cells #[.int .u8 0, .int .i64 0, .slice none 0 0] 27) = W := ⟨_, rfl⟩
    obtain ⟨N0, hN0⟩ : ∃ N, w.heap.size = N := ⟨_, rfl⟩
    have hwb : Below w.heap.size w W := by rw [← hW]; exact (Below.refl _ _).alloc (Nat.le_refl _) _
    have hbx : Bx W N0 0 0 none 0 0 := by rw [← hW]; exact heap_last hN0.symm
    have HR := Lib.hid (h.under hwb); have HB := Lib.hid hwb; have HX := Lib.hid hbx; have H0 := Lib.hid h
    have HN : Hid (w.heap.size ≤ N0) := Lib.hid (by omega)
    match k, hr with
    | 0, hr =>
      obtain rfl : r = 5 := by omega
      have HU := Lib.hid (unary_off HR.out hb)
      unfold ptr at *
      clear h hwb hbx
      go_enter Tryd.func28, Tryd.ntmps28
      go_wp2_with fail
      refine HU.out.mono ?_
      rintro e w3 ⟨A, M, p, n, c, rfl, hr3, hb1⟩
      obtain ⟨x0, x1, x2, y0, y1, y2⟩ := (HX.out.under hb1).cells
      have HP := Lib.hid (off_fill (A := A) (N := M) (p := p) (n := n) (c := c) H0.out (HB.out.trans (hb1.mono HB.out.size)) HN.out)
      clear hb1 hr3
      go_wp2_with fail
      refine bodyPost_ret (v := .agg #[.int .u8 A, .int .i64 M, .slice p n c]) (by simp [results, Tryd.f28, go_sem, x0, x1, x2]) rfl HP.out
    | k + 1, hr =>
      have HU := Lib.hid (row_off hb k (r + 1) (by omega) HR.out)
      have hr5 : ((r : Int) == 5) = false := by simp; omega
      have hw1 : IntKind.i64.wrap ((r : Int) + 1) = ((r + 1 : Nat) : Int) := by rw [IntWalk.i64_in _ ⟨by omega, by omega⟩]; omega
      have hb0 : decide (bd < 0) = false := decide_eq_false hb
      have hb1' : 0 ≤ bd := by omega
      have hb2 : (bd < 0) = False := eq_false hb
      unfold ptr at *
      clear h hwb hbx
      go_enter Tryd.func28, Tryd.ntmps28
      go_wp2_with fail
      refine HU.out.mono ?_
      rintro e w3 ⟨A, M, p, n, c, rfl, hr3, hb1⟩
      obtain ⟨W4, hW4⟩ : ∃ W, w3.alloc (.cells #[.int .u8 A, .int .i64 M, .slice p n c] 27) = W := ⟨_, rfl⟩
      obtain ⟨N1, hN1⟩ : ∃ N, w3.heap.size = N := ⟨_, rfl⟩
      have h34 : Below w3.heap.size w3 W4 := by rw [← hW4]; exact (Below.refl _ _).alloc (Nat.le_refl _) _
      obtain ⟨z0, z1, z2, _⟩ : _ ∧ _ ∧ _ ∧ _ := (show Bx W4 N1 A M p n c from by rw [← hW4]; exact heap_last hN1.symm).cells
      have hW4b : Below W.heap.size W W4 := hb1.trans (h34.mono hb1.size)
      obtain ⟨x0, x1, x2, y0, y1, y2⟩ := (HX.out.under hW4b).cells
      obtain ⟨c0, c1, c2, c3, f1, f3⟩ := (hr3.under h34).cells
      have HP : Hid (∀ q, OffPost S i bd w (.returned (.agg #[.int .u8 A, .int .i64 M, .slice p n c])) (set3 (W4.drewN q) N0 A M p n c)) := Lib.hid (fun q => off_fill (A := A) (N := M) (p := p) (n := n) (c := c) H0.out (belowD (HB.out.trans (hW4b.mono HB.out.size)) q) HN.out)
      clear hb1 hr3 h34 hW4b
      go_wp2_with fail
      go_loopg [6] 1 (fun g v6 wr => wr = W4)
      case atStart => rfl
      case round =>
        obtain rfl := hrel
        go_wp2_with fail
        go_quiet (fail)
        go_wp2_with fail
        refine bodyPost_ret (v := .agg #[.int .u8 A, .int .i64 M, .slice p n c]) (by simp [results, Tryd.f28, go_sem, x0, x1, x2]) rfl (HP.out _)
end Go.Proofs.YtffhmbiamkbchaaDoor.exp
end
section
namespace Go.Proofs.YtffhmbiamkbchaaDoor.exp
set_option linter.unusedSimpArgs false
set_option linter.unusedVariables false
open Go.RowKit nam lex

/-- What a rule's answer tells: the expression and where the reader stands, or where it went wrong. -/
def TR (S : Src) (F : Nat → Prop) (o : Out) (w' : World) (A N : Int) (p : Option Addr) (n c : Nat) (bd : Int) (i : Nat) : Prop :=
  match o with
  | .bad l => bd = (placeOf l S.en : Int)
  | .ok x l => bd = -1 ∧ A = (x.op : Int) ∧ N = x.n ∧ n = x.args.length ∧ Lies w' F (.slice p n c) x.args ∧ S.at i = l
def RPost (S : Src) (o : Out) (w : World) (e : Ending) (w' : World) : Prop :=
  ∃ (A N : Int) (p : Option Addr) (n c : Nat) (bd : Int) (i : Nat), e = .returned (.agg #[.int .u8 A, .int .i64 N, .slice p n c]) ∧ Rt S w' i bd ∧ Only (Mine S) w w' ∧ TR S (From w) o w' A N p n c bd i
theorem Rt.ne {S : Src} {w : World} {i b n c : Nat} {bd A N : Int} {p : Option Addr} (hr : Rt S w i bd) (h1 : Bx w b A N p n c) : b ≠ S.rb := fun e => by
  have h2 : w.heap[b]? = _ := h1
  rw [e, hr.box] at h2
  simp at h2
theorem Bx.onlyT {S : Src} {w w' : World} {b n c i : Nat} {A N bd : Int} {p : Option Addr} (h : Bx w b A N p n c) (hb : Only (Mine S) w w') (hr : Rt S w i bd) : Bx w' b A N p n c :=
  (hb.block b h.lt (fun e => hr.ne h e)).trans h
theorem Rt.set3 {S : Src} {w : World} {i b n c n' c' : Nat} {bd A N A' N' : Int} {p p' : Option Addr} (hr : Rt S w i bd) (h1 : Bx w b A N p n c) : Rt S (exp.set3 w b A' N' p' n' c') i bd := by
  have hne : S.rb ≠ b := fun e => hr.ne h1 e.symm
  unfold Bx at h1
  refine ⟨?_, (set3_other hne).trans hr.box, hr.le, hr.few, hr.ok⟩
  rcases hr.row with ⟨h2, h3 | ⟨g, cap, cur, h4, h5, h6, h7⟩⟩
  · exact ⟨h2, .inl h3⟩
  · refine ⟨h2, .inr ⟨g, cap, cur, h4, h5, (set3_other fun e => ?_).trans h6, h7⟩⟩
    rw [← e, h6] at h1
    simp at h1
structure Lr (S : Src) (w : World) (f : List Tok → Out) (r L N0 N1 : Nat) (O : Out) (m : Nat) (bd : Int) (wr : World) (A N : Int) (p : Option Addr) (n c i : Nat) : Prop where
  only : Only (Mine S) w wr
  box0 : Bx wr N0 0 0 none 0 0
  box1 : Bx wr N1 A N p n c
  rt : Rt S wr i bd
  yes : bd < 0 → bd = -1 ∧ ∃ x : Ex, A = (x.op : Int) ∧ N = x.n ∧ n = x.args.length ∧ Lies wr (Fx w N0 N1) (.slice p n c) x.args ∧ loopP f r m x (S.at i) = O ∧ (S.at i).length < L
  no : ¬ bd < 0 → ∃ l, O = .bad l ∧ bd = (placeOf l S.en : Int)
theorem Lr.under {S : Src} {w : World} {f : List Tok → Out} {r L N0 N1 : Nat} {O : Out} {m : Nat} {bd : Int} {wr w5 : World} {A N : Int} {p : Option Addr} {n c i : Nat} (h : Lr S w f r L N0 N1 O m bd wr A N p n c i) (hb : Below wr.heap.size wr w5) : Lr S w f r L N0 N1 O m bd w5 A N p n c i :=
  ⟨h.only.then (.of_below hb), h.box0.under hb, h.box1.under hb, h.rt.under hb, fun hy => by obtain ⟨h0, x, h1, h2, h3, h4, h5⟩ := h.yes hy; exact ⟨h0, x, h1, h2, h3, h4.under hb, h5⟩, h.no⟩
theorem Lr.cells {S : Src} {w : World} {f : List Tok → Out} {r L N0 N1 : Nat} {O : Out} {m : Nat} {bd : Int} {wr : World} {A N : Int} {p : Option Addr} {n c i : Nat} (h : Lr S w f r L N0 N1 O m bd wr A N p n c i) :
    wr.cell? ⟨N0, 0, none⟩ = some (.int .u8 0) ∧ wr.cell? ⟨N0, 1, none⟩ = some (.int .i64 0) ∧ wr.cell? ⟨N0, 2, none⟩ = some (.slice none 0 0) ∧ wr.frozen? ⟨N0, 0, none⟩ = false ∧ wr.frozen? ⟨N0, 1, none⟩ = false ∧ wr.frozen? ⟨N0, 2, none⟩ = false ∧
    wr.cell? ⟨N1, 0, none⟩ = some (.int .u8 A) ∧ wr.cell? ⟨N1, 1, none⟩ = some (.int .i64 N) ∧ wr.cell? ⟨N1, 2, none⟩ = some (.slice p n c) := by
  obtain ⟨a1, a2, a3, a4, a5, a6⟩ := h.box0.cells
  obtain ⟨b1, b2, b3, _⟩ := h.box1.cells
  exact ⟨a1, a2, a3, a4, a5, a6, b1, b2, b3⟩
theorem lr_end {S : Src} {w : World} {f : List Tok → Out} {r L N0 N1 : Nat} {O : Out} {m : Nat} {bd : Int} {wr : World} {A N : Int} {p : Option Addr} {n c i : Nat} (h : Lr S w f r L N0 N1 O m bd wr A N p n c i) (hN0 : w.heap.size = N0) (hN1 : N0 < N1)
    (hx : bd < 0 → opAt r (txt (S.at i)) = 0 ∨ m = 0) : RPost S O w (.returned (.agg #[.int .u8 A, .int .i64 N, .slice p n c])) (set3 wr N0 A N p n c) := by
  have hrs : Rt S (set3 wr N0 A N p n c) i bd := h.rt.set3 h.box0
  refine ⟨A, N, p, n, c, bd, i, rfl, hrs, set3_only h.only (by omega), ?_⟩
  by_cases hb : bd < 0
  · obtain ⟨h0, x, h1, h2, h3, h4, h5, h6⟩ := h.yes hb
    have ho : O = .ok x (S.at i) := by
      rw [← h5]
      rcases hx hb with h7 | rfl
      · exact loopP_none h7
      · rfl
    rw [ho]
    exact ⟨h0, h1, h2, h3, (h4.frame fun k cc hk hcc => set3_other (fun e => hk.2.1 e)).mono fun k hk => hk.1, rfl⟩
  · obtain ⟨l, h1, h2⟩ := h.no hb
    rw [h1]
    exact h2
/-- What a round leaves: a sign, and a part behind it. -/
structure Sr (S : Src) (f : List Tok → Out) (wb wd we : World) (i3 : Nat) (A2 M2 : Int) (p2 : Option Addr) (n2 c2 : Nat) (b2 : Int) (i4 : Nat) : Prop where
  eq : wb.setCell ⟨S.rb, 1, none⟩ (.int .i64 ((i3 : Int) + 1)) = wd
  rt : Rt S we i4 b2
  only : Only (Mine S) wd we
  tells : TR S (From wd) (f (S.at (i3 + 1))) we A2 M2 p2 n2 c2 b2 i4
theorem Lr.pre {S : Src} {w : World} {f : List Tok → Out} {r L N0 N1 : Nat} {O : Out} {m : Nat} {wb wd : World} {A N : Int} {p : Option Addr} {n c i3 : Nat} (h : Lr S w f r L N0 N1 O m (-1) wb A N p n c i3) (hop : opAt r (txt (S.at i3)) ≠ 0)
    (hw : wb.setCell ⟨S.rb, 1, none⟩ (.int .i64 ((i3 : Int) + 1)) = wd) :
    Rt S wd (i3 + 1) (-1) ∧ (S.at (i3 + 1)).length < L ∧ Only (Mine S) wb wd ∧ Bx wd N0 0 0 none 0 0 ∧ Bx wd N1 A N p n c ∧ wd.heap.size = wb.heap.size := by
  have hi := at_lt (op_ne hop)
  obtain ⟨_, x, _, _, _, _, _, hl⟩ := h.yes (by decide)
  have hon : Only (Mine S) wb wd := by rw [← hw]; exact Only.setCell _ _ _ _ rfl
  refine ⟨by rw [← hw]; exact h.rt.next hi, ?_, hon, h.box0.onlyT hon h.rt, h.box1.onlyT hon h.rt, by rw [← hw]; simp⟩
  rw [at_len] at *; omega
theorem lr_step {S : Src} {w : World} {f : List Tok → Out} {r L N0 N1 : Nat} {O : Out} {m : Nat} {wb wd we wf wg : World} {A N : Int} {p : Option Addr} {n c i3 N2 : Nat} {A2 M2 : Int} {p2 : Option Addr} {n2 c2 : Nat} {b2 : Int} {i4 o N3 : Nat}
    (h : Lr S w f r L N0 N1 O (m + 1) (-1) wb A N p n c i3) (hop : opAt r (txt (S.at i3)) ≠ 0) (ho : opAt r (txt (S.at i3)) = o) (hN0 : w.heap.size = N0) (hN01 : N0 < N1) (hfl : ∀ l, Less l.length (f l))
    (hs : Sr S f wb wd we i3 A2 M2 p2 n2 c2 b2 i4) (hN2 : we.heap.size = N2) (hwf : we.alloc (.cells #[.int .u8 A2, .int .i64 M2, .slice p2 n2 c2] 27) = wf) (hN3 : wf.heap.size = N3) (hwg : wf.alloc (.cells #[.int .u8 A, .int .i64 N, .slice p n c, .int .u8 A2, .int .i64 M2, .slice p2 n2 c2] 27) = wg) :
    Bx wf N1 A N p n c ∧ Bx wf N2 A2 M2 p2 n2 c2 ∧ Bx wg N1 A N p n c ∧
    Lr S w f r L N0 N1 O m b2 (exp.set3 wg N1 (o : Int) 0 (some ⟨N3, 0, none⟩) 2 2) (o : Int) 0 (some ⟨N3, 0, none⟩) 2 2 i4 ∧ (b2 < 0 → (S.at i4).length < (S.at i3).length) := by
  obtain ⟨k1, k2, k4, k5, k6, k7⟩ := Lr.pre h hop hs.eq
  have hlt1 := h.box1.lt
  have hlt0 := h.box0.lt
  have hi := at_lt (op_ne hop)
  have e0 : Bx we N0 0 0 none 0 0 := k5.onlyT hs.only k1
  have e1 : Bx we N1 A N p n c := k6.onlyT hs.only k1
  have hwes := hs.only.size
  have hbf : Below we.heap.size we wf := by rw [← hwf]; exact (Below.refl _ _).alloc (Nat.le_refl _) _
  have f2 : Bx wf N2 A2 M2 p2 n2 c2 := by rw [← hwf]; exact heap_last hN2.symm
  have f1 : Bx wf N1 A N p n c := e1.under hbf
  have f0 : Bx wf N0 0 0 none 0 0 := e0.under hbf
  have hwfs : wf.heap.size = we.heap.size + 1 := by rw [← hwf]; simp
  have hbg : Below wf.heap.size wf wg := by rw [← hwg]; exact (Below.refl _ _).alloc (Nat.le_refl _) _
  have g1 : Bx wg N1 A N p n c := f1.under hbg
  have hgr : wg.heap[N3]? = some (.cells #[.int .u8 A, .int .i64 N, .slice p n c, .int .u8 A2, .int .i64 M2, .slice p2 n2 c2] 27 (0, 0)) := by rw [← hwg]; exact heap_last hN3.symm
  have hwsz := h.only.size
  have hof : Only (Mine S) w wf := ((h.only.then k4).then hs.only).then (.of_below hbf)
  have hlen : ∀ y l, f (S.at (i3 + 1)) = .ok y l → l.length < (S.at (i3 + 1)).length := fun y l hfo => by
    have hless := hfl (S.at (i3 + 1))
    rw [hfo] at hless
    simpa only [Less] using hless
  refine ⟨f1, f2, g1, ⟨set3_only (hof.then (.of_below hbg)) (by omega), (set3_other (by omega)).trans (f0.under hbg), g1.set _ _ _ _ _, ((hs.rt.under hbf).under hbg).set3 g1, fun hb2 => ?_, fun hb2 => ?_⟩, fun hb2 => ?_⟩
  · obtain ⟨_, x, h1, h2, h3, h4, h5, h6⟩ := h.yes (by decide)
    have ht := hs.tells
    cases hfo : f (S.at (i3 + 1)) with
    | bad l => rw [hfo] at ht; rw [show b2 = _ from ht] at hb2; omega
    | ok y l =>
      rw [hfo] at ht
      obtain ⟨t0, t1, t2, t3, t4, t5⟩ := ht
      have hless := hlen y l hfo
      refine ⟨t0, .mk o 0 [x, y], rfl, rfl, rfl, ?_, ?_, ?_⟩
      · have hx : Lies (exp.set3 wg N1 (o : Int) 0 (some ⟨N3, 0, none⟩) 2 2) (Fx w N0 N1) (.slice p n c) x.args := by
          refine (h4.here.frame fun k cc hk hcc => ?_).mono fun k hk => hk.1
          have hk2 := hk.2
          rw [set3_other hk.1.2.2, hbg.block k (by omega), hbf.block k (by omega), hs.only.block k (by omega) (fun e => ?_), k4.block k hk.2 (fun e => ?_)]
          · have := h.rt.box; rw [show k = S.rb from e, this] at hcc; simp at hcc
          · have := h.rt.box; rw [show k = S.rb from e, this] at hcc; simp at hcc
        have hy : Lies (exp.set3 wg N1 (o : Int) 0 (some ⟨N3, 0, none⟩) 2 2) (Fx w N0 N1) (.slice p2 n2 c2) y.args := by
          refine (t4.here.frame fun k cc hk hcc => ?_).mono fun k hk => ?_
          · have hk1 : wd.heap.size ≤ k := hk.1
            have hk2 := hk.2
            rw [set3_other (by omega), hbg.block k (by omega), hbf.block k (by omega)]
          · have hk1 : wd.heap.size ≤ k := hk.1
            exact ⟨by omega, by omega, by omega⟩
        subst h1; subst h2; subst h3; subst t1; subst t2; subst t3
        exact lies_two (x := x) (y := y) ⟨by omega, by omega, by omega⟩ ((set3_other (by omega)).trans hgr) hx hy
      · rw [← h5, loopP_ok hop (by rw [at_tail]; exact hfo), ho, t5]
      · rw [t5]; rw [at_len] at *; omega
  · obtain ⟨_, x, h1, h2, h3, h4, h5, h6⟩ := h.yes (by decide)
    have ht := hs.tells
    cases hfo : f (S.at (i3 + 1)) with
    | bad l => rw [hfo] at ht; exact ⟨l, by rw [← h5, loopP_bad hop (by rw [at_tail]; exact hfo)], ht⟩
    | ok y l => rw [hfo] at ht; rw [ht.1] at hb2; exact absurd (by decide) hb2
  · have ht := hs.tells
    cases hfo : f (S.at (i3 + 1)) with
    | bad l => rw [hfo] at ht; rw [show b2 = _ from ht] at hb2; omega
    | ok y l =>
      rw [hfo] at ht
      have hless := hlen y l hfo
      rw [ht.2.2.2.2.2]
      rw [at_len] at *; omega
/-- A token of another kind than a sign's is no sign of a level. -/
theorem op_kind {t : Tok} (h : TokOk t) (hk : t.kind ≠ 3) (r : Nat) : opAt r t.text = 0 := by
  rcases h.kind with h1 | h1 | h1
  · obtain ⟨h2, h3⟩ := h.one h1
    have hno : ∀ x ∈ t.text, x ≠ 124 ∧ x ≠ 38 ∧ x ≠ 60 ∧ x ≠ 61 ∧ x ≠ 33 ∧ x ≠ 43 ∧ x ≠ 45 ∧ x ≠ 42 ∧ x ≠ 47 ∧ x ≠ 37 := fun x hx => by
      have := h3 x hx
      refine ⟨?_, ?_, ?_, ?_, ?_, ?_, ?_, ?_, ?_, ?_⟩ <;> (rintro rfl; exact absurd this (by decide))
    have hne : ∀ s : List Nat, (∃ x ∈ s, x = 124 ∨ x = 38 ∨ x = 60 ∨ x = 61 ∨ x = 33 ∨ x = 43 ∨ x = 45 ∨ x = 42 ∨ x = 47 ∨ x = 37) → t.text ≠ s := fun s ⟨x, hx, hx2⟩ e => by
      have := hno x (by rw [e]; exact hx)
      omega
    unfold opAt
    rw [if_neg (hne [124] ⟨124, by simp, by omega⟩), if_neg (hne [38] ⟨38, by simp, by omega⟩), if_neg (hne [60] ⟨60, by simp, by omega⟩), if_neg (hne [60, 61] ⟨60, by simp, by omega⟩), if_neg (hne [61] ⟨61, by simp, by omega⟩), if_neg (hne [33, 61] ⟨61, by simp, by omega⟩), if_neg (hne [43] ⟨43, by simp, by omega⟩), if_neg (hne [45] ⟨45, by simp, by omega⟩), if_neg (hne [42] ⟨42, by simp, by omega⟩), if_neg (hne [47] ⟨47, by simp, by omega⟩), if_neg (hne [37] ⟨37, by simp, by omega⟩)]
    simp
  · rw [h.two h1]; exact opAt_nil r
  · exact absurd h1 hk
end Go.Proofs.YtffhmbiamkbchaaDoor.exp
end
