/- The reference's unary: walked. The reference's one: what its steps come to, right or wrong before. The reference's one at an 'if': what its steps come to. -/
import Derived.Test.YtffhmbiamkbchaaDoorMRd
import Derived.Test.YtffhmbiamkbchaaDoorMZa
section
namespace Go.Proofs.YtffhmbiamkbchaaDoor.exp
set_option linter.unusedSimpArgs false
set_option linter.unusedVariables false
open Go.RowKit nam lex

/-- A rule's answer, put into the result's box. -/
theorem rp_fill {S : Src} {o : Out} {w w2 w3 : World} {N0 i n c : Nat} {A M b : Int} {p : Option Addr} (h2 : Only (Mine S) w w2) (hN0 : w.heap.size ≤ N0) (hlt : N0 < w2.heap.size) (h0 : Bx w3 N0 0 0 none 0 0) (r3 : Rt S w3 i b) (ho : Only (Mine S) w2 w3) (ht : TR S (From w2) o w3 A M p n c b i) :
    RPost S o w (.returned (.agg #[.int .u8 A, .int .i64 M, .slice p n c])) (set3 w3 N0 A M p n c) := by
  refine ⟨A, M, p, n, c, b, i, rfl, r3.set3 h0, set3_only (h2.then ho) hN0, ?_⟩
  have hsz := h2.size
  cases o with
  | bad l => exact ht
  | ok x l =>
    obtain ⟨t0, t1, t2, t3, t4, t5⟩ := ht
    exact ⟨t0, t1, t2, t3, (t4.frame fun k cc hk hcc => set3_other (by unfold From at hk; omega)).mono fun k hk => by unfold From at *; omega, t5⟩
theorem ur_end {S : Src} {f : List Tok → Out} {w W w1 wd we wg : World} {N0 N1 i i2 o n c : Nat} {A M b : Int} {p : Option Addr} (hb : Below w.heap.size w W) (h0 : Bx W N0 0 0 none 0 0) (hN0 : w.heap.size = N0) (r0 : Rt S W i (-1)) (h1 : Below W.heap.size W w1)
    (hwd : w1.setCell ⟨S.rb, 1, none⟩ (.int .i64 ((i : Int) + 1)) = wd) (r2 : Rt S we i2 b) (ho : Only (Mine S) wd we) (ht : TR S (From wd) (f (S.at (i + 1))) we A M p n c b i2) (hN1 : we.heap.size = N1) (hwg : we.alloc (.cells #[.int .u8 A, .int .i64 M, .slice p n c] 27) = wg) :
    Bx wg N0 0 0 none 0 0 ∧ RPost S (match f (S.at (i + 1)) with | .bad l' => .bad l' | .ok x l' => .ok (.mk o 0 [x]) l') w (.returned (.agg #[.int .u8 (o : Int), .int .i64 0, .slice (some ⟨N1, 0, none⟩) 1 1])) (set3 wg N0 (o : Int) 0 (some ⟨N1, 0, none⟩) 1 1) := by
  have e1 : Bx w1 N0 0 0 none 0 0 := h0.under h1
  have r1 := r0.under h1
  have hod : Only (Mine S) w1 wd := by rw [← hwd]; exact Only.setCell _ _ _ _ rfl
  have ed : Bx wd N0 0 0 none 0 0 := e1.onlyT hod r1
  have hds : wd.heap.size = w1.heap.size := by rw [← hwd]; simp
  have ee : Bx we N0 0 0 none 0 0 := by
    refine (ho.block N0 (by have := e1.lt; omega) (fun e => r1.ne e1 e)).trans ed
  have hbg : Below we.heap.size we wg := by rw [← hwg]; exact (Below.refl _ _).alloc (Nat.le_refl _) _
  have eg : Bx wg N0 0 0 none 0 0 := ee.under hbg
  have l0 := h0.lt
  have z0 := hb.size
  have z1 := h1.size
  have z2 := ho.size
  refine ⟨eg, (o : Int), 0, _, 1, 1, b, i2, rfl, (r2.under hbg).set3 eg, set3_only (((((Only.of_below hb).then (.of_below h1)).then hod).then ho).then (.of_below hbg)) (by omega), ?_⟩
  cases hfo : f (S.at (i + 1)) with
  | bad l => rw [hfo] at ht; exact ht
  | ok x l =>
    rw [hfo] at ht
    obtain ⟨t0, t1, t2, t3, t4, t5⟩ := ht
    refine ⟨t0, rfl, rfl, rfl, ?_, t5⟩
    have hrow : wg.heap[N1]? = some (.cells #[.int .u8 A, .int .i64 M, .slice p n c] 27 (0, 0)) := by rw [← hwg]; exact heap_last hN1.symm
    subst t1; subst t2; subst t3
    refine lies_one (x := x) (by unfold From; omega) ((set3_other (by omega)).trans hrow) (((t4.under hbg).frame fun k cc hk hcc => set3_other ?_).mono fun k hk => ?_)
    · unfold From at hk; omega
    · unfold From at *; omega

set_option maxHeartbeats 1600000 in
set_option maxRecDepth 1000000 in
theorem unary_ref {S : Src} {f5 f6 : List Tok → Out} {L i : Nat} {w : World} (hf5 : ∀ (w' : World) (i' : Nat), Rt S w' i' (-1) → (S.at i').length < L → Calls Tryd.prog 47 #[ptr S.rb] w' (RPost S (f5 (S.at i')) w'))
    (hf6 : ∀ (w' : World) (i' : Nat), Rt S w' i' (-1) → (S.at i').length ≤ L → Calls Tryd.prog 62 #[ptr S.rb] w' (RPost S (f6 (S.at i')) w')) (hs : Rt S w i (-1)) (hL : (S.at i).length ≤ L) :
    Calls Tryd.prog 47 #[ptr S.rb] w (RPost S (unO f5 f6 (S.at i)) w) := by
  obtain ⟨W, hW⟩ : ∃ W, w.alloc (.cells #[.int .u8 0, .int .i64 0, .slice none 0 0] 27) = W := ⟨_, rfl⟩
  obtain ⟨N0, hN0⟩ : ∃ N, w.heap.size = N := ⟨_, rfl⟩
  have hwb : Below w.heap.size w W := by rw [← hW]; exact (Below.refl _ _).alloc (Nat.le_refl _) _
  have hb0 : Bx W N0 0 0 none 0 0 := by rw [← hW]; exact heap_last hN0.symm
  have hsW := hs.under hwb
  have HI : Hid (∀ (w : World), Rt S w i (-1) → Calls Tryd.prog 61 #[ptr S.rb, .string ⟨#[45]⟩] w fun e w' => e = .returned (.bool (isB (-1) (S.at i) [45])) ∧ Below w.heap.size w w') := Lib.hid fun w h => ref_is h (t := [45]) (okl (by decide)) (by decide) (T := ⟨#[45]⟩) rfl
  have HJ : Hid (∀ (w : World), Rt S w i (-1) → Calls Tryd.prog 61 #[ptr S.rb, .string ⟨#[33]⟩] w fun e w' => e = .returned (.bool (isB (-1) (S.at i) [33])) ∧ Below w.heap.size w w') := Lib.hid fun w h => ref_is h (t := [33]) (okl (by decide)) (by decide) (T := ⟨#[33]⟩) rfl
  have HB := Lib.hid hwb; have HB0 := Lib.hid hb0; have HS := Lib.hid hsW; have HN := Lib.hid hN0; have H5 := Lib.hid hf5; have H6 := Lib.hid hf6; have HL := Lib.hid hL
  have hin : ∀ t, t ≠ [] → txt (S.at i) = t → (i : Int) < 400 ∧ (S.at (i + 1)).length < L := fun t ht h => by
    have hi := at_lt (S := S) (i := i) (by rw [h]; exact ht)
    have := hs.few
    rw [at_len] at *
    omega
  have HIN := Lib.hid hin
  clear hwb hb0 hs hsW hf5 hf6 hL hin
  unfold ptr at *
  obtain ⟨O, hOO⟩ : ∃ O, unO f5 f6 (S.at i) = O := ⟨_, rfl⟩
  rw [hOO]
  have HOO := Lib.hid hOO
  clear hOO
  by_cases h45 : txt (S.at i) = [45]
  · have hO : unO f5 f6 (S.at i) = (match f5 (S.at (i + 1)) with | .bad l' => .bad l' | .ok x l' => .ok (.mk 5 0 [x]) l') := by unfold unO; rw [if_pos h45, at_tail]; rfl
    have HQ := Lib.hid hO
    have hd : isB (-1) (S.at i) [45] = true := by unfold isB; simp [h45]
    rw [hd] at HI
    obtain ⟨hi4, hlt⟩ := HIN.out _ (by decide) h45
    have hi' := Lib.hid (at_lt (S := S) (i := i) (by rw [h45]; decide))
    have HLT := Lib.hid hlt
    have hw2 : IntKind.i64.wrap ((i : Int) + 1) = (i : Int) + 1 := IntWalk.i64_in _ ⟨by omega, by omega⟩
    clear hO hd hlt h45
    go_enter Tryd.func47, Tryd.ntmps47
    go_wp2_with fail
    refine (HI.out _ HS.out).mono ?_
    rintro e w1 ⟨rfl, hb1⟩
    have hr := HS.out.under hb1
    obtain ⟨c0, c1, c2, c3, f1, f3⟩ := hr.cells
    obtain ⟨wd, hwd⟩ : ∃ wd, w1.setCell ⟨S.rb, 1, none⟩ (.int .i64 ((i : Int) + 1)) = wd := ⟨_, rfl⟩
    have hrd : Rt S wd (i + 1) (-1) := by rw [← hwd]; exact hr.next hi'.out
    have HRD := Lib.hid hrd; have HB1 := Lib.hid hb1
    clear hr hrd hb1
    go_wp2_with fail
    refine (H5.out wd (i + 1) HRD.out HLT.out).mono ?_
    rintro e we ⟨A, M, p, n, c, b, i2, rfl, r2, ho, ht⟩
    obtain ⟨N1, hN1⟩ : ∃ N1, we.heap.size = N1 := ⟨_, rfl⟩
    obtain ⟨wg, hwg⟩ : ∃ wg, we.alloc (.cells #[.int .u8 A, .int .i64 M, .slice p n c] 27) = wg := ⟨_, rfl⟩
    obtain ⟨hg, hp⟩ := ur_end (o := 5) HB.out HB0.out HN.out HS.out HB1.out hwd r2 ho ht hN1 hwg
    obtain ⟨a1, a2, a3, a4, a5, a6⟩ := hg.cells
    rw [← HQ.out, HOO.out] at hp
    have HP := Lib.hid hp
    clear hg hp r2 ho ht
    go_wp2_with fail
    try rw [Exit.noGoto_ret]
    refine bodyPost_ret (v := .agg #[.int .u8 5, .int .i64 0, .slice (some ⟨N1, 0, none⟩) 1 1]) (by simp [results, Tryd.f47, go_sem, a1, a2, a3]) rfl HP.out
  have hd : isB (-1) (S.at i) [45] = false := by unfold isB; simp [h45]
  rw [hd] at HI
  by_cases h33 : txt (S.at i) = [33]
  · have hO : unO f5 f6 (S.at i) = (match f5 (S.at (i + 1)) with | .bad l' => .bad l' | .ok x l' => .ok (.mk 6 0 [x]) l') := by unfold unO; rw [if_neg h45, if_pos h33, at_tail]; rfl
    have HQ := Lib.hid hO
    have hd : isB (-1) (S.at i) [33] = true := by unfold isB; simp [h33]
    rw [hd] at HJ
    obtain ⟨hi4, hlt⟩ := HIN.out _ (by decide) h33
    have hi' := Lib.hid (at_lt (S := S) (i := i) (by rw [h33]; decide))
    have HLT := Lib.hid hlt
    have hw2 : IntKind.i64.wrap ((i : Int) + 1) = (i : Int) + 1 := IntWalk.i64_in _ ⟨by omega, by omega⟩
    clear hO hd hlt h33 h45
    go_enter Tryd.func47, Tryd.ntmps47
    go_wp2_with fail
    refine (HI.out _ HS.out).mono ?_
    rintro e w0 ⟨rfl, hb0⟩
    have HB0' := Lib.hid hb0; have HR0 := Lib.hid (HS.out.under hb0)
    clear hb0
    go_wp2_with fail
    refine (HJ.out _ HR0.out).mono ?_
    rintro e w1 ⟨rfl, hb1⟩
    have hr := HR0.out.under hb1
    obtain ⟨c0, c1, c2, c3, f1, f3⟩ := hr.cells
    obtain ⟨wd, hwd⟩ : ∃ wd, w1.setCell ⟨S.rb, 1, none⟩ (.int .i64 ((i : Int) + 1)) = wd := ⟨_, rfl⟩
    have hrd : Rt S wd (i + 1) (-1) := by rw [← hwd]; exact hr.next hi'.out
    have HRD := Lib.hid hrd; have HB1 := Lib.hid (HB0'.out.trans (hb1.mono HB0'.out.size))
    clear hr hrd hb1
    go_wp2_with fail
    refine (H5.out wd (i + 1) HRD.out HLT.out).mono ?_
    rintro e we ⟨A, M, p, n, c, b, i2, rfl, r2, ho, ht⟩
    obtain ⟨N1, hN1⟩ : ∃ N1, we.heap.size = N1 := ⟨_, rfl⟩
    obtain ⟨wg, hwg⟩ : ∃ wg, we.alloc (.cells #[.int .u8 A, .int .i64 M, .slice p n c] 27) = wg := ⟨_, rfl⟩
    obtain ⟨hg, hp⟩ := ur_end (o := 6) HB.out HB0.out HN.out HS.out HB1.out hwd r2 ho ht hN1 hwg
    obtain ⟨a1, a2, a3, a4, a5, a6⟩ := hg.cells
    rw [← HQ.out, HOO.out] at hp
    have HP := Lib.hid hp
    clear hg hp r2 ho ht
    go_wp2_with fail
    try rw [Exit.noGoto_ret]
    refine bodyPost_ret (v := .agg #[.int .u8 6, .int .i64 0, .slice (some ⟨N1, 0, none⟩) 1 1]) (by simp [results, Tryd.f47, go_sem, a1, a2, a3]) rfl HP.out
  have hd3 : isB (-1) (S.at i) [33] = false := by unfold isB; simp [h33]
  rw [hd3] at HJ
  have hO : unO f5 f6 (S.at i) = f6 (S.at i) := by unfold unO; rw [if_neg h45, if_neg h33]
  have HQ := Lib.hid hO
  clear hO hd hd3 h45 h33
  go_enter Tryd.func47, Tryd.ntmps47
  go_wp2_with fail
  refine (HI.out _ HS.out).mono ?_
  rintro e w0 ⟨rfl, hb0⟩
  have HB0' := Lib.hid hb0; have HR0 := Lib.hid (HS.out.under hb0)
  clear hb0
  go_wp2_with fail
  refine (HJ.out _ HR0.out).mono ?_
  rintro e w1 ⟨rfl, hb1⟩
  have HR1 := Lib.hid (HR0.out.under hb1); have HB1 := Lib.hid (HB0'.out.trans (hb1.mono HB0'.out.size))
  clear hb1
  go_wp2_with fail
  refine (H6.out w1 i HR1.out HL.out).mono ?_
  rintro e we ⟨A, M, p, n, c, b, i2, rfl, r2, ho, ht⟩
  have h1 : Bx w1 N0 0 0 none 0 0 := HB0.out.under HB1.out
  have hg : Bx we N0 0 0 none 0 0 := h1.onlyT ho HR1.out
  obtain ⟨a1, a2, a3, a4, a5, a6⟩ := hg.cells
  have hp := rp_fill ((Only.of_below HB.out).then (Only.of_below HB1.out)) (Nat.le_of_eq HN.out) h1.lt hg r2 ho ht
  rw [← HQ.out, HOO.out] at hp
  have HP := Lib.hid hp
  clear hp
  clear hg h1 r2 ho ht
  go_wp2_with fail
  refine bodyPost_ret (v := .agg #[.int .u8 A, .int .i64 M, .slice p n c]) (by simp [results, Tryd.f47, go_sem, a1, a2, a3]) rfl HP.out
set_option maxRecDepth 1000000 in
theorem row5_ref {S : Src} {o : Out} {i : Nat} {w : World} (hf : ∀ (w' : World), Rt S w' i (-1) → Calls Tryd.prog 47 #[ptr S.rb] w' (RPost S o w')) (hs : Rt S w i (-1)) :
    Calls Tryd.prog 28 #[ptr S.rb, .int .i64 5] w (RPost S o w) := by
  obtain ⟨W, hW⟩ : ∃ W, w.alloc (.cells #[.int .u8 0, .int .i64 0, .slice none 0 0] 27) = W := ⟨_, rfl⟩
  obtain ⟨N0, hN0⟩ : ∃ N, w.heap.size = N := ⟨_, rfl⟩
  have hwb : Below w.heap.size w W := by rw [← hW]; exact (Below.refl _ _).alloc (Nat.le_refl _) _
  have hb0 : Bx W N0 0 0 none 0 0 := by rw [← hW]; exact heap_last hN0.symm
  have HF := Lib.hid (hf W (hs.under hwb))
  have HB := Lib.hid hwb; have HB0 := Lib.hid hb0; have HS := Lib.hid (hs.under hwb); have HN := Lib.hid hN0
  clear hwb hb0 hs hf
  unfold ptr at *
  go_enter Tryd.func28, Tryd.ntmps28
  go_wp2_with fail
  refine HF.out.mono ?_
  rintro e we ⟨A, M, p, n, c, b, i2, rfl, r2, ho, ht⟩
  have hg : Bx we N0 0 0 none 0 0 := HB0.out.onlyT ho HS.out
  obtain ⟨a1, a2, a3, a4, a5, a6⟩ := hg.cells
  have HP := Lib.hid (rp_fill (Only.of_below HB.out) (Nat.le_of_eq HN.out) HB0.out.lt hg r2 ho ht)
  clear hg r2 ho ht
  go_wp2_with fail
  refine bodyPost_ret (v := .agg #[.int .u8 A, .int .i64 M, .slice p n c]) (by simp [results, Tryd.f28, go_sem, a1, a2, a3]) rfl HP.out
end Go.Proofs.YtffhmbiamkbchaaDoor.exp
end
section
namespace Go.Proofs.YtffhmbiamkbchaaDoor.exp
set_option linter.unusedSimpArgs false
set_option linter.unusedVariables false
open Go.RowKit nam lex

def Okb (b : Int) : Prop := b = -1 ∨ 0 ≤ b
def Row0 (S : Src) (f : List Tok → Out) (L : Nat) : Prop := ∀ (w' : World) (i' : Nat), Rt S w' i' (-1) → (S.at i').length < L → Calls Tryd.prog 28 #[ptr S.rb, .int .i64 0] w' (RPost S (f (S.at i')) w')
def Both (S : Src) (f : List Tok → Out) (w : World) (i : Nat) (bd : Int) (e : Ending) (w' : World) : Prop :=
  ∃ (A M : Int) (p : Option Addr) (n c : Nat) (b : Int) (i' : Nat), e = .returned (.agg #[.int .u8 A, .int .i64 M, .slice p n c]) ∧ Rt S w' i' b ∧ Okb b ∧ Only (Mine S) w w' ∧ (bd = -1 → TR S (From w) (f (S.at i)) w' A M p n c b i') ∧ (0 ≤ bd → b = bd)
theorem TR.okb {S : Src} {F : Nat → Prop} {o : Out} {w' : World} {A M b : Int} {p : Option Addr} {n c i : Nat} (h : TR S F o w' A M p n c b i) : Okb b := by
  cases o with
  | bad l => exact .inr (by rw [show b = _ from h]; omega)
  | ok x l => exact .inl h.1
theorem row0_both {S : Src} {f : List Tok → Out} {L : Nat} (hf : Row0 S f L) {w : World} {i : Nat} {bd : Int} (h : Rt S w i bd) (hbd : Okb bd) (hl : bd = -1 → (S.at i).length < L) : Calls Tryd.prog 28 #[ptr S.rb, .int .i64 0] w (Both S f w i bd) := by
  rcases hbd with rfl | hb
  · refine (hf w i h (hl rfl)).mono ?_
    rintro e w' ⟨A, M, p, n, c, b, i', rfl, r, ho, ht⟩
    exact ⟨A, M, p, n, c, b, i', rfl, r, ht.okb, ho, fun _ => ht, fun h => absurd h (by decide)⟩
  · refine (row_off (by omega : ¬ bd < 0) 5 0 (by omega) h).mono ?_
    rintro e w' ⟨A, M, p, n, c, rfl, r, hb'⟩
    exact ⟨A, M, p, n, c, bd, i, rfl, r, .inr hb, .of_below hb', fun h => by omega, fun _ => rfl⟩
def MustPost (S : Src) (t : List Nat) (w : World) (i : Nat) (bd : Int) (e : Ending) (w' : World) : Prop :=
  ∃ (b : Int) (i' : Nat), e = .returned (.tuple #[]) ∧ Rt S w' i' b ∧ Okb b ∧ Only (Mine S) w w' ∧ (bd = -1 → txt (S.at i) = t → b = -1 ∧ i' = i + 1) ∧ (bd = -1 → txt (S.at i) ≠ t → b = (placeOf (S.at i) S.en : Int)) ∧ (0 ≤ bd → b = bd)
theorem must_both {S : Src} {t : List Nat} (hto : ∀ r ∈ t, okR r) (htn : t ≠ []) {T : ByteArray} (hT : textOf t = T) {w : World} {i : Nat} {bd : Int} (h : Rt S w i bd) (hbd : Okb bd) : Calls Tryd.prog 77 #[ptr S.rb, .string T] w (MustPost S t w i bd) := by
  rcases hbd with rfl | hb
  · by_cases hx : txt (S.at i) = t
    · refine (must_yes h (by decide) hto htn hT hx).mono ?_
      rintro e w' ⟨rfl, r, ho⟩
      exact ⟨-1, i + 1, rfl, r, .inl rfl, ho, fun _ _ => ⟨rfl, rfl⟩, fun _ h => absurd hx h, fun h => absurd h (by decide)⟩
    · refine (must_no h (by decide) hto htn hT hx).mono ?_
      rintro e w' ⟨rfl, r, ho⟩
      exact ⟨_, i, rfl, r, .inr (by omega), ho, fun _ h => absurd h hx, fun _ _ => rfl, fun h => absurd h (by decide)⟩
  · refine (must_off h (by omega) hto htn hT).mono ?_
    rintro e w' ⟨rfl, r, ho⟩
    exact ⟨bd, i, rfl, r, .inr hb, .of_below ho, fun h => by omega, fun h => by omega, fun _ => rfl⟩
/-- A leaf's box. -/
theorem leaf_ref {S : Src} {w w1 wd : World} {N0 i o : Nat} {m : Int} (hw1 : Only (Mine S) w w1) (hN0 : w.heap.size ≤ N0) (h0 : Bx w1 N0 0 0 none 0 0) (r1 : Rt S w1 i (-1)) (hi : i < S.toks.length) (hwd : w1.setCell ⟨S.rb, 1, none⟩ (.int .i64 ((i : Int) + 1)) = wd) :
    Bx wd N0 0 0 none 0 0 ∧ Rt S wd (i + 1) (-1) ∧ RPost S (.ok (.mk o m []) (S.at (i + 1))) w (.returned (.agg #[.int .u8 (o : Int), .int .i64 m, .slice none 0 0])) (set3 wd N0 (o : Int) m none 0 0) := by
  have hod : Only (Mine S) w1 wd := by rw [← hwd]; exact Only.setCell _ _ _ _ rfl
  have ed : Bx wd N0 0 0 none 0 0 := h0.onlyT hod r1
  have rd : Rt S wd (i + 1) (-1) := by rw [← hwd]; exact r1.next hi
  exact ⟨ed, rd, _, _, _, _, _, -1, i + 1, rfl, rd.set3 ed, set3_only (hw1.then hod) hN0, rfl, rfl, rfl, rfl, .nil, rfl⟩
/-- Where nothing may stand. -/
theorem none_ref {S : Src} {w w1 wd : World} {N0 i : Nat} (hw1 : Only (Mine S) w w1) (hN0 : w.heap.size ≤ N0) (h0 : Bx w1 N0 0 0 none 0 0) (r1 : Rt S w1 i (-1)) (hwd : w1.setCell ⟨S.rb, 3, none⟩ (.int .i64 (placeOf (S.at i) S.en : Int)) = wd) :
    Bx wd N0 0 0 none 0 0 ∧ RPost S (.bad (S.at i)) w (.returned (.agg #[.int .u8 0, .int .i64 0, .slice none 0 0])) (set3 wd N0 0 0 none 0 0) := by
  have hod : Only (Mine S) w1 wd := by rw [← hwd]; exact Only.setCell _ _ _ _ rfl
  have ed : Bx wd N0 0 0 none 0 0 := h0.onlyT hod r1
  have rd : Rt S wd i (placeOf (S.at i) S.en : Int) := by rw [← hwd]; exact r1.wrong _
  exact ⟨ed, 0, 0, none, 0, 0, _, i, rfl, rd.set3 ed, set3_only (hw1.then hod) hN0, rfl⟩
/-- In parentheses. -/
theorem paren_ref {S : Src} {f : List Tok → Out} {w wd w2 w3 w4 : World} {N0 N6 i i2 i4 n c : Nat} {A M b2 b4 : Int} {p : Option Addr} (hw1 : Only (Mine S) w wd) (hN0 : w.heap.size ≤ N0) (hlt : N0 < wd.heap.size) (h0 : Bx wd N0 0 0 none 0 0) (rd : Rt S wd (i + 1) (-1))
    (r2 : Rt S w2 i2 b2) (ho2 : Only (Mine S) wd w2) (ht : TR S (From wd) (f (S.at (i + 1))) w2 A M p n c b2 i2) (hN6 : w2.heap.size = N6) (hw3 : w2.alloc (.cells #[.int .u8 A, .int .i64 M, .slice p n c] 27) = w3)
    (r4 : Rt S w4 i4 b4) (ho4 : Only (Mine S) w3 w4) (hy : b2 = -1 → txt (S.at i2) = [41] → b4 = -1 ∧ i4 = i2 + 1) (hn : b2 = -1 → txt (S.at i2) ≠ [41] → b4 = (placeOf (S.at i2) S.en : Int)) (hoff : 0 ≤ b2 → b4 = b2) :
    Bx w4 N0 0 0 none 0 0 ∧ Bx w4 N6 A M p n c ∧ RPost S (match f (S.at (i + 1)) with | .bad l' => .bad l' | .ok x l' => if txt l' = [41] then .ok x l'.tail else .bad l') w (.returned (.agg #[.int .u8 A, .int .i64 M, .slice p n c])) (set3 w4 N0 A M p n c) := by
  have h23 : Below w2.heap.size w2 w3 := by rw [← hw3]; exact (Below.refl _ _).alloc (Nat.le_refl _) _
  have r3 := r2.under h23
  have e2 : Bx w2 N0 0 0 none 0 0 := h0.onlyT ho2 rd
  have e4 : Bx w4 N0 0 0 none 0 0 := (e2.under h23).onlyT ho4 r3
  have g3 : Bx w3 N6 A M p n c := by rw [← hw3]; exact heap_last hN6.symm
  have z1 := hw1.size; have z2 := ho2.size; have z3 := h23.size; have z4 := ho4.size
  refine ⟨e4, g3.onlyT ho4 r3, A, M, p, n, c, b4, i4, rfl, r4.set3 e4, set3_only (((hw1.then ho2).then (.of_below h23)).then ho4) hN0, ?_⟩
  cases hfo : f (S.at (i + 1)) with
  | bad l => rw [hfo] at ht; have hb : b2 = _ := ht; rw [hoff (by omega)]; exact ht
  | ok x l =>
    rw [hfo] at ht
    obtain ⟨t0, t1, t2, t3, t4, t5⟩ := ht
    simp only []
    by_cases hx : txt l = [41]
    · rw [if_pos hx]
      obtain ⟨k1, k2⟩ := hy t0 (by rw [t5]; exact hx)
      refine ⟨k1, t1, t2, t3, (((t4.under h23).here.frame fun k cc hk hcc => ?_).mono fun k hk => ?_), by rw [k2, ← at_tail, t5]⟩
      · have h1 : wd.heap.size ≤ k := hk.1
        rw [set3_other (by omega), ho4.block k hk.2 (fun e => ?_)]
        have h5 := r3.box
        rw [← show k = S.rb from e, hcc] at h5
        simp at h5
      · have h1 : wd.heap.size ≤ k := hk.1
        unfold From; omega
    · rw [if_neg hx]
      show b4 = _
      rw [hn t0 (by rw [t5]; exact hx), t5]
end Go.Proofs.YtffhmbiamkbchaaDoor.exp
end
section
namespace Go.Proofs.YtffhmbiamkbchaaDoor.exp
set_option linter.unusedSimpArgs false
set_option linter.unusedVariables false
open Go.RowKit nam lex

theorem lies_tri {w : World} {F : Nat → Prop} {b : Nat} {p1 p2 p3 : Option Addr} {n1 c1 n2 c2 n3 c3 : Nat} {x y z : Ex} (hF : F b) (hb : w.heap[b]? = some (.cells #[.int .u8 (x.op : Int), .int .i64 x.n, .slice p1 n1 c1, .int .u8 (y.op : Int), .int .i64 y.n, .slice p2 n2 c2, .int .u8 (z.op : Int), .int .i64 z.n, .slice p3 n3 c3] 27 (0, 0)))
    (h1 : Lies w F (.slice p1 n1 c1) x.args) (h2 : Lies w F (.slice p2 n2 c2) y.args) (h3 : Lies w F (.slice p3 n3 c3) z.args) : Lies w F (.slice (some ⟨b, 0, none⟩) 3 3) [x, y, z] := by
  refine .row b 3 3 _ [x, y, z] (fun i => if i = 0 then .slice p1 n1 c1 else if i = 1 then .slice p2 n2 c2 else .slice p3 n3 c3) hF hb rfl ?_ ?_
  · intro i hi
    match i, hi with
    | 0, _ => exact ⟨rfl, rfl, rfl⟩
    | 1, _ => exact ⟨rfl, rfl, rfl⟩
    | 2, _ => exact ⟨rfl, rfl, rfl⟩
  · intro i hi
    match i, hi with
    | 0, _ => exact h1
    | 1, _ => exact h2
    | 2, _ => exact h3
/-- What was told stays where it lies. -/
theorem TR.keep {S : Src} {F : Nat → Prop} {o : Out} {w w' : World} {A M b bd : Int} {p : Option Addr} {n c i i' : Nat} (h : TR S F o w A M p n c b i) (r : Rt S w i' bd) (ho : Only (Mine S) w w') : TR S (fun k => F k ∧ k < w.heap.size) o w' A M p n c b i := by
  cases o with
  | bad l => exact h
  | ok x l =>
    obtain ⟨t0, t1, t2, t3, t4, t5⟩ := h
    refine ⟨t0, t1, t2, t3, t4.here.frame fun k cc hk hcc => ho.block k hk.2 fun e => ?_, t5⟩
    have h5 := r.box
    rw [← show k = S.rb from e, hcc] at h5
    simp at h5
theorem TR.mono {S : Src} {F G : Nat → Prop} {o : Out} {w : World} {A M b : Int} {p : Option Addr} {n c i : Nat} (h : TR S F o w A M p n c b i) (hF : ∀ k, F k → G k) : TR S G o w A M p n c b i := by
  cases o with
  | bad l => exact h
  | ok x l =>
    obtain ⟨t0, t1, t2, t3, t4, t5⟩ := h
    exact ⟨t0, t1, t2, t3, t4.mono hF, t5⟩
/-- What an 'if' comes to: three parts, each right or wrong, and two words. -/
structure Tri (S : Src) (f : List Tok → Out) (w : World) (F : Nat → Prop) (i1 : Nat) (A1 M1 A2 M2 A3 M3 : Int) (p1 p2 p3 : Option Addr) (n1 c1 n2 c2 n3 c3 i2 i4 i5 i7 i8 : Nat) (b2 b4 b5 b7 b8 : Int) : Prop where
  a : TR S F (f (S.at i1)) w A1 M1 p1 n1 c1 b2 i2
  then1 : b2 = -1 → txt (S.at i2) = wThen → b4 = -1 ∧ i4 = i2 + 1
  then2 : b2 = -1 → txt (S.at i2) ≠ wThen → b4 = (placeOf (S.at i2) S.en : Int)
  then3 : 0 ≤ b2 → b4 = b2
  b : b4 = -1 → TR S F (f (S.at i4)) w A2 M2 p2 n2 c2 b5 i5
  b' : 0 ≤ b4 → b5 = b4
  else1 : b5 = -1 → txt (S.at i5) = wElse → b7 = -1 ∧ i7 = i5 + 1
  else2 : b5 = -1 → txt (S.at i5) ≠ wElse → b7 = (placeOf (S.at i5) S.en : Int)
  else3 : 0 ≤ b5 → b7 = b5
  c : b7 = -1 → TR S F (f (S.at i7)) w A3 M3 p3 n3 c3 b8 i8
  c' : 0 ≤ b7 → b8 = b7
theorem Tri.out {S : Src} {f : List Tok → Out} {w : World} {F : Nat → Prop} {i : Nat} {A1 M1 A2 M2 A3 M3 : Int} {p1 p2 p3 : Option Addr} {n1 c1 n2 c2 n3 c3 i2 i4 i5 i7 i8 : Nat} {b2 b4 b5 b7 b8 : Int} (h : Tri S f w F (i + 1) A1 M1 A2 M2 A3 M3 p1 p2 p3 n1 c1 n2 c2 n3 c3 i2 i4 i5 i7 i8 b2 b4 b5 b7 b8)
    {g : Nat} (hF : F g) (hg : w.heap[g]? = some (.cells #[.int .u8 A1, .int .i64 M1, .slice p1 n1 c1, .int .u8 A2, .int .i64 M2, .slice p2 n2 c2, .int .u8 A3, .int .i64 M3, .slice p3 n3 c3] 27 (0, 0))) :
    TR S F (ifP f (S.at i)) w 18 0 (some ⟨g, 0, none⟩) 3 3 b8 i8 := by
  have ha := h.a
  unfold ifP
  rw [at_tail]
  cases h1 : f (S.at (i + 1)) with
  | bad l =>
    rw [h1] at ha
    have e2 : b2 = (placeOf l S.en : Int) := ha
    have e4 := h.then3 (by omega)
    have e5 := h.b' (by omega)
    have e7 := h.else3 (by omega)
    have e8 := h.c' (by omega)
    show b8 = _
    omega
  | ok x l1 =>
    rw [h1] at ha
    obtain ⟨s0, s1, s2, s3, s4, s5⟩ := ha
    simp only []
    by_cases g1 : txt l1 = wThen
    · rw [if_pos g1]
      obtain ⟨e4, i4e⟩ := h.then1 s0 (by rw [s5]; exact g1)
      have hb := h.b e4
      have el1 : l1.tail = S.at i4 := by rw [← s5, at_tail, i4e]
      rw [el1]
      cases h2 : f (S.at i4) with
      | bad l =>
        rw [h2] at hb
        have e5 : b5 = (placeOf l S.en : Int) := hb
        have e7 := h.else3 (by omega)
        have e8 := h.c' (by omega)
        show b8 = _
        omega
      | ok y l2 =>
        rw [h2] at hb
        obtain ⟨t0, t1, t2, t3, t4, t5⟩ := hb
        simp only []
        by_cases g2 : txt l2 = wElse
        · rw [if_pos g2]
          obtain ⟨e7, i7e⟩ := h.else1 t0 (by rw [t5]; exact g2)
          have hc := h.c e7
          have el2 : l2.tail = S.at i7 := by rw [← t5, at_tail, i7e]
          rw [el2]
          cases h3 : f (S.at i7) with
          | bad l => rw [h3] at hc; exact hc
          | ok z l3 =>
            rw [h3] at hc
            obtain ⟨u0, u1, u2, u3, u4, u5⟩ := hc
            refine ⟨u0, rfl, rfl, rfl, ?_, u5⟩
            subst s1; subst s2; subst s3; subst t1; subst t2; subst t3; subst u1; subst u2; subst u3
            exact lies_tri (x := x) (y := y) (z := z) hF hg s4 t4 u4
        · rw [if_neg g2]
          have e7 := h.else2 t0 (by rw [t5]; exact g2)
          rw [t5] at e7
          have e8 := h.c' (by omega)
          show b8 = _
          omega
    · rw [if_neg g1]
      have e4 := h.then2 s0 (by rw [s5]; exact g1)
      rw [s5] at e4
      have e5 := h.b' (by omega)
      have e7 := h.else3 (by omega)
      have e8 := h.c' (by omega)
      show b8 = _
      omega
theorem TR.len {S : Src} {F : Nat → Prop} {f : List Tok → Out} {l0 : List Tok} {w : World} {A M b : Int} {p : Option Addr} {n c i : Nat} (h : TR S F (f l0) w A M p n c b i) (hfl : Less l0.length (f l0)) (hb : b = -1) : (S.at i).length < l0.length := by
  cases hf : f l0 with
  | bad l => rw [hf] at h; have e : b = (placeOf l S.en : Int) := h; omega
  | ok x l =>
    rw [hf] at h hfl
    rw [h.2.2.2.2.2]
    simpa only [Less] using hfl
theorem then_len {S : Src} {t : List Nat} {i2 i4 L : Nat} {b2 b4 : Int} (ho : Okb b2) (hl : b2 = -1 → (S.at i2).length < L) (h1 : b2 = -1 → txt (S.at i2) = t → b4 = -1 ∧ i4 = i2 + 1) (h2 : b2 = -1 → txt (S.at i2) ≠ t → b4 = (placeOf (S.at i2) S.en : Int)) (h3 : 0 ≤ b2 → b4 = b2) (hb : b4 = -1) : (S.at i4).length < L := by
  rcases ho with h | h
  · by_cases hx : txt (S.at i2) = t
    · obtain ⟨_, rfl⟩ := h1 h hx
      have := hl h
      rw [at_len] at *; omega
    · have := h2 h hx; omega
  · have := h3 h; omega
theorem alloc_only {F : Nat → Prop} {w w' : World} {o : Obj} (h : w.alloc o = w') : Only F w w' ∧ Below w.heap.size w w' := by
  have hb : Below w.heap.size w w' := by rw [← h]; exact (Below.refl _ _).alloc (Nat.le_refl _) _
  exact ⟨.of_below hb, hb⟩
theorem if_ref {S : Src} {f : List Tok → Out} {w wd w2 w3 w4 w5 w6 w7 w8 w9 wg : World} {N0 N7 N8 N9 g i : Nat} {A1 M1 A2 M2 A3 M3 : Int} {p1 p2 p3 : Option Addr} {n1 c1 n2 c2 n3 c3 i2 i4 i5 i7 i8 : Nat} {b2 b4 b5 b7 b8 : Int}
    (hw1 : Only (Mine S) w wd) (hN0 : w.heap.size ≤ N0) (hlt : N0 < wd.heap.size) (h0 : Bx wd N0 0 0 none 0 0) (rd : Rt S wd (i + 1) (-1))
    (r2 : Rt S w2 i2 b2) (ho2 : Only (Mine S) wd w2) (ht2 : TR S (From wd) (f (S.at (i + 1))) w2 A1 M1 p1 n1 c1 b2 i2) (hN7 : w2.heap.size = N7) (hw3 : w2.alloc (.cells #[.int .u8 A1, .int .i64 M1, .slice p1 n1 c1] 27) = w3)
    (r4 : Rt S w4 i4 b4) (ho4 : Only (Mine S) w3 w4) (k1 : b2 = -1 → txt (S.at i2) = wThen → b4 = -1 ∧ i4 = i2 + 1) (k2 : b2 = -1 → txt (S.at i2) ≠ wThen → b4 = (placeOf (S.at i2) S.en : Int)) (k3 : 0 ≤ b2 → b4 = b2)
    (r5 : Rt S w5 i5 b5) (ho5 : Only (Mine S) w4 w5) (ht5 : b4 = -1 → TR S (From w4) (f (S.at i4)) w5 A2 M2 p2 n2 c2 b5 i5) (k5 : 0 ≤ b4 → b5 = b4) (hN8 : w5.heap.size = N8) (hw6 : w5.alloc (.cells #[.int .u8 A2, .int .i64 M2, .slice p2 n2 c2] 27) = w6)
    (r7 : Rt S w7 i7 b7) (ho7 : Only (Mine S) w6 w7) (e1 : b5 = -1 → txt (S.at i5) = wElse → b7 = -1 ∧ i7 = i5 + 1) (e2 : b5 = -1 → txt (S.at i5) ≠ wElse → b7 = (placeOf (S.at i5) S.en : Int)) (e3 : 0 ≤ b5 → b7 = b5)
    (r8 : Rt S w8 i8 b8) (ho8 : Only (Mine S) w7 w8) (ht8 : b7 = -1 → TR S (From w7) (f (S.at i7)) w8 A3 M3 p3 n3 c3 b8 i8) (k8 : 0 ≤ b7 → b8 = b7) (hN9 : w8.heap.size = N9) (hw9 : w8.alloc (.cells #[.int .u8 A3, .int .i64 M3, .slice p3 n3 c3] 27) = w9)
    (hg : w9.heap.size = g) (hwg : w9.alloc (.cells #[.int .u8 A1, .int .i64 M1, .slice p1 n1 c1, .int .u8 A2, .int .i64 M2, .slice p2 n2 c2, .int .u8 A3, .int .i64 M3, .slice p3 n3 c3] 27) = wg) :
    Bx w9 N7 A1 M1 p1 n1 c1 ∧ Bx w9 N8 A2 M2 p2 n2 c2 ∧ Bx w9 N9 A3 M3 p3 n3 c3 ∧ Bx wg N0 0 0 none 0 0 ∧
    RPost S (ifP f (S.at i)) w (.returned (.agg #[.int .u8 18, .int .i64 0, .slice (some ⟨g, 0, none⟩) 3 3])) (set3 wg N0 18 0 (some ⟨g, 0, none⟩) 3 3) := by
  obtain ⟨o3, l3⟩ := alloc_only (F := Mine S) hw3
  obtain ⟨o6, l6⟩ := alloc_only (F := Mine S) hw6
  obtain ⟨o9, l9⟩ := alloc_only (F := Mine S) hw9
  obtain ⟨og, lg⟩ := alloc_only (F := Mine S) hwg
  have r3 := r2.under l3; have r6 := r5.under l6; have r9 := r8.under l9
  have x3 : Bx w3 N7 A1 M1 p1 n1 c1 := by rw [← hw3]; exact heap_last hN7.symm
  have x6 : Bx w6 N8 A2 M2 p2 n2 c2 := by rw [← hw6]; exact heap_last hN8.symm
  have x9 : Bx w9 N9 A3 M3 p3 n3 c3 := by rw [← hw9]; exact heap_last hN9.symm
  have o49 : Only (Mine S) w4 w9 := (((ho5.then o6).then ho7).then ho8).then o9
  have o39 : Only (Mine S) w3 w9 := ho4.then o49
  have o69 : Only (Mine S) w6 w9 := (ho7.then ho8).then o9
  have o29 : Only (Mine S) w2 w9 := o3.then o39
  have od9 : Only (Mine S) wd w9 := ho2.then o29
  have eg : Bx wg N0 0 0 none 0 0 := (h0.onlyT od9 rd).under lg
  have zd2 := ho2.size; have z23 := l3.size; have z34 := ho4.size; have z45 := ho5.size; have z56 := l6.size; have z67 := ho7.size; have z78 := ho8.size; have z89 := l9.size; have zd := hw1.size
  refine ⟨x3.onlyT o39 r3, x6.onlyT o69 r6, x9, eg, 18, 0, _, 3, 3, b8, i8, rfl, (r9.under lg).set3 eg, set3_only ((hw1.then od9).then og) hN0, ?_⟩
  have hT : Tri S f wg (From wd) (i + 1) A1 M1 A2 M2 A3 M3 p1 p2 p3 n1 c1 n2 c2 n3 c3 i2 i4 i5 i7 i8 b2 b4 b5 b7 b8 :=
    ⟨(ht2.keep r2 (o29.then og)).mono fun k hk => hk.1, k1, k2, k3, fun hb => ((ht5 hb).keep r5 ((((o6.then ho7).then ho8).then o9).then og)).mono fun k hk => by have := hk.1; unfold From at *; omega, k5, e1, e2, e3,
      fun hb => ((ht8 hb).keep r8 (o9.then og)).mono fun k hk => by have := hk.1; unfold From at *; omega, k8⟩
  have hO := hT.out (g := g) (by unfold From; omega) (by rw [← hwg]; exact heap_last hg.symm)
  cases hf : ifP f (S.at i) with
  | bad l => rw [hf] at hO; exact hO
  | ok x l =>
    rw [hf] at hO
    obtain ⟨t0, t1, t2, t3, t4, t5⟩ := hO
    exact ⟨t0, t1, t2, t3, (t4.frame fun k cc hk hcc => set3_other (by unfold From at hk; omega)).mono fun k hk => by unfold From at *; omega, t5⟩
end Go.Proofs.YtffhmbiamkbchaaDoor.exp
end
