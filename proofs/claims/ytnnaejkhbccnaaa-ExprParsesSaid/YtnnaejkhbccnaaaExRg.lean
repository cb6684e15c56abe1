/- The reference's unary: walked. -/
import Derived.Test.YtnnaejkhbccnaaaExRde
import Derived.Test.YtnnaejkhbccnaaaExZa
namespace Go.Proofs.Ytnnaejkhbccnaaa.exp
set_option linter.unusedSimpArgs false
set_option linter.unusedVariables false
open Go.RowKit nam lex

/-- A rule's answer, put into the result's box. -/
theorem rp_fill {S : Src} {o : Out} {w w2 w3 : World} {N0 i n c : Nat} {A M b : Int} {p : Option Addr} (h2 : Only (Mine S) w w2) (hN0 : w.heap.size ≤ N0) (hlt : N0 < w2.heap.size) (h0 : Bx w3 N0 0 0 none 0 0) (r3 : Rt S w3 i b) (ho : Only (Mine S) w2 w3) (ht : TR S (From w2) o w3 A M p n c b i) :
    RPost S o w (.returned (.agg #[.int .u8 A, .int .i64 M, .slice p n c])) (set3 w3 N0 A M p n c) := by
  refine ⟨A, M, p, n, c, b, i, rfl, r3.set3 h0, set3_only (h2.then ho) hN0, ?_⟩
  have hsz := h2.size
  cases o with
  | bad l => exact ht
  | ok x l =>
    obtain ⟨t0, t1, t2, t3, t4, t5⟩ := ht
    exact ⟨t0, t1, t2, t3, (t4.frame fun k cc hk hcc => set3_other (by unfold From at hk; omega)).mono fun k hk => by unfold From at *; omega, t5⟩
theorem ur_end {S : Src} {f : List Tok → Out} {w W w1 wd we wg : World} {N0 N1 i i2 o n c : Nat} {A M b : Int} {p : Option Addr} (hb : Below w.heap.size w W) (h0 : Bx W N0 0 0 none 0 0) (hN0 : w.heap.size = N0) (r0 : Rt S W i (-1)) (h1 : Below W.heap.size W w1)
    (hwd : w1.setCell ⟨S.rb, 1, none⟩ (.int .i64 ((i : Int) + 1)) = wd) (r2 : Rt S we i2 b) (ho : Only (Mine S) wd we) (ht : TR S (From wd) (f (S.at (i + 1))) we A M p n c b i2) (hN1 : we.heap.size = N1) (hwg : we.alloc (.cells #[.int .u8 A, .int .i64 M, .slice p n c] 24) = wg) :
    Bx wg N0 0 0 none 0 0 ∧ RPost S (match f (S.at (i + 1)) with | .bad l' => .bad l' | .ok x l' => .ok (.mk o 0 [x]) l') w (.returned (.agg #[.int .u8 (o : Int), .int .i64 0, .slice (some ⟨N1, 0, none⟩) 1 1])) (set3 wg N0 (o : Int) 0 (some ⟨N1, 0, none⟩) 1 1) := by
  have e1 : Bx w1 N0 0 0 none 0 0 := h0.under h1
  have r1 := r0.under h1
  have hod : Only (Mine S) w1 wd := by rw [← hwd]; exact Only.setCell _ _ _ _ rfl
  have ed : Bx wd N0 0 0 none 0 0 := e1.onlyT hod r1
  have hds : wd.heap.size = w1.heap.size := by rw [← hwd]; simp
  have ee : Bx we N0 0 0 none 0 0 := by
    refine (ho.block N0 (by have := e1.lt; omega) (fun e => r1.ne e1 e)).trans ed
  have hbg : Below we.heap.size we wg := by rw [← hwg]; exact (Below.refl _ _).alloc (Nat.le_refl _) _
  have eg : Bx wg N0 0 0 none 0 0 := ee.under hbg
  have l0 := h0.lt
  have z0 := hb.size
  have z1 := h1.size
  have z2 := ho.size
  refine ⟨eg, (o : Int), 0, _, 1, 1, b, i2, rfl, (r2.under hbg).set3 eg, set3_only (((((Only.of_below hb).then (.of_below h1)).then hod).then ho).then (.of_below hbg)) (by omega), ?_⟩
  cases hfo : f (S.at (i + 1)) with
  | bad l => rw [hfo] at ht; exact ht
  | ok x l =>
    rw [hfo] at ht
    obtain ⟨t0, t1, t2, t3, t4, t5⟩ := ht
    refine ⟨t0, rfl, rfl, rfl, ?_, t5⟩
    have hrow : wg.heap[N1]? = some (.cells #[.int .u8 A, .int .i64 M, .slice p n c] 24 (0, 0)) := by rw [← hwg]; exact heap_last hN1.symm
    subst t1; subst t2; subst t3
    refine lies_one (x := x) (by unfold From; omega) ((set3_other (by omega)).trans hrow) (((t4.under hbg).frame fun k cc hk hcc => set3_other ?_).mono fun k hk => ?_)
    · unfold From at hk; omega
    · unfold From at *; omega

set_option maxHeartbeats 1600000 in
set_option maxRecDepth 1000000 in
theorem unary_ref {S : Src} {f5 f6 : List Tok → Out} {L i : Nat} {w : World} (hf5 : ∀ (w' : World) (i' : Nat), Rt S w' i' (-1) → (S.at i').length < L → Calls Try.prog 48 #[ptr S.rb] w' (RPost S (f5 (S.at i')) w'))
    (hf6 : ∀ (w' : World) (i' : Nat), Rt S w' i' (-1) → (S.at i').length ≤ L → Calls Try.prog 68 #[ptr S.rb] w' (RPost S (f6 (S.at i')) w')) (hs : Rt S w i (-1)) (hL : (S.at i).length ≤ L) :
    Calls Try.prog 48 #[ptr S.rb] w (RPost S (unO f5 f6 (S.at i)) w) := by
  obtain ⟨W, hW⟩ : ∃ W, w.alloc (.cells #[.int .u8 0, .int .i64 0, .slice none 0 0] 24) = W := ⟨_, rfl⟩
  obtain ⟨N0, hN0⟩ : ∃ N, w.heap.size = N := ⟨_, rfl⟩
  have hwb : Below w.heap.size w W := by rw [← hW]; exact (Below.refl _ _).alloc (Nat.le_refl _) _
  have hb0 : Bx W N0 0 0 none 0 0 := by rw [← hW]; exact heap_last hN0.symm
  have hsW := hs.under hwb
  have HI : Hid (∀ (w : World), Rt S w i (-1) → Calls Try.prog 67 #[ptr S.rb, .string ⟨#[45]⟩] w fun e w' => e = .returned (.bool (isB (-1) (S.at i) [45])) ∧ Below w.heap.size w w') := Lib.hid fun w h => ref_is h (t := [45]) (okl (by decide)) (by decide) (T := ⟨#[45]⟩) rfl
  have HJ : Hid (∀ (w : World), Rt S w i (-1) → Calls Try.prog 67 #[ptr S.rb, .string ⟨#[33]⟩] w fun e w' => e = .returned (.bool (isB (-1) (S.at i) [33])) ∧ Below w.heap.size w w') := Lib.hid fun w h => ref_is h (t := [33]) (okl (by decide)) (by decide) (T := ⟨#[33]⟩) rfl
  have HB := Lib.hid hwb; have HB0 := Lib.hid hb0; have HS := Lib.hid hsW; have HN := Lib.hid hN0; have H5 := Lib.hid hf5; have H6 := Lib.hid hf6; have HL := Lib.hid hL
  have hin : ∀ t, t ≠ [] → txt (S.at i) = t → (i : Int) < 400 ∧ (S.at (i + 1)).length < L := fun t ht h => by
    have hi := at_lt (S := S) (i := i) (by rw [h]; exact ht)
    have := hs.few
    rw [at_len] at *
    omega
  have HIN := Lib.hid hin
  clear hwb hb0 hs hsW hf5 hf6 hL hin
  unfold ptr at *
  obtain ⟨O, hOO⟩ : ∃ O, unO f5 f6 (S.at i) = O := ⟨_, rfl⟩
  rw [hOO]
  have HOO := Lib.hid hOO
  clear hOO
  by_cases h45 : txt (S.at i) = [45]
  · have hO : unO f5 f6 (S.at i) = (match f5 (S.at (i + 1)) with | .bad l' => .bad l' | .ok x l' => .ok (.mk 5 0 [x]) l') := by unfold unO; rw [if_pos h45, at_tail]; rfl
    have HQ := Lib.hid hO
    have hd : isB (-1) (S.at i) [45] = true := by unfold isB; simp [h45]
    rw [hd] at HI
    obtain ⟨hi4, hlt⟩ := HIN.out _ (by decide) h45
    have hi' := Lib.hid (at_lt (S := S) (i := i) (by rw [h45]; decide))
    have HLT := Lib.hid hlt
    have hw2 : IntKind.i64.wrap ((i : Int) + 1) = (i : Int) + 1 := IntWalk.i64_in _ ⟨by omega, by omega⟩
    clear hO hd hlt h45
    go_enter Try.func48, Try.ntmps48
    go_wp2_with fail
    refine (HI.out _ HS.out).mono ?_
    rintro e w1 ⟨rfl, hb1⟩
    have hr := HS.out.under hb1
    obtain ⟨c0, c1, c2, c3, f1, f3⟩ := hr.cells
    obtain ⟨wd, hwd⟩ : ∃ wd, w1.setCell ⟨S.rb, 1, none⟩ (.int .i64 ((i : Int) + 1)) = wd := ⟨_, rfl⟩
    have hrd : Rt S wd (i + 1) (-1) := by rw [← hwd]; exact hr.next hi'.out
    have HRD := Lib.hid hrd; have HB1 := Lib.hid hb1
    clear hr hrd hb1
    go_wp2_with fail
    refine (H5.out wd (i + 1) HRD.out HLT.out).mono ?_
    rintro e we ⟨A, M, p, n, c, b, i2, rfl, r2, ho, ht⟩
    obtain ⟨N1, hN1⟩ : ∃ N1, we.heap.size = N1 := ⟨_, rfl⟩
    obtain ⟨wg, hwg⟩ : ∃ wg, we.alloc (.cells #[.int .u8 A, .int .i64 M, .slice p n c] 24) = wg := ⟨_, rfl⟩
    obtain ⟨hg, hp⟩ := ur_end (o := 5) HB.out HB0.out HN.out HS.out HB1.out hwd r2 ho ht hN1 hwg
    obtain ⟨a1, a2, a3, a4, a5, a6⟩ := hg.cells
    rw [← HQ.out, HOO.out] at hp
    have HP := Lib.hid hp
    clear hg hp r2 ho ht
    go_wp2_with fail
    try rw [Exit.noGoto_ret]
    refine bodyPost_ret (v := .agg #[.int .u8 5, .int .i64 0, .slice (some ⟨N1, 0, none⟩) 1 1]) (by simp [results, Try.f48, go_sem, a1, a2, a3]) rfl HP.out
  have hd : isB (-1) (S.at i) [45] = false := by unfold isB; simp [h45]
  rw [hd] at HI
  by_cases h33 : txt (S.at i) = [33]
  · have hO : unO f5 f6 (S.at i) = (match f5 (S.at (i + 1)) with | .bad l' => .bad l' | .ok x l' => .ok (.mk 6 0 [x]) l') := by unfold unO; rw [if_neg h45, if_pos h33, at_tail]; rfl
    have HQ := Lib.hid hO
    have hd : isB (-1) (S.at i) [33] = true := by unfold isB; simp [h33]
    rw [hd] at HJ
    obtain ⟨hi4, hlt⟩ := HIN.out _ (by decide) h33
    have hi' := Lib.hid (at_lt (S := S) (i := i) (by rw [h33]; decide))
    have HLT := Lib.hid hlt
    have hw2 : IntKind.i64.wrap ((i : Int) + 1) = (i : Int) + 1 := IntWalk.i64_in _ ⟨by omega, by omega⟩
    clear hO hd hlt h33 h45
    go_enter Try.func48, Try.ntmps48
    go_wp2_with fail
    refine (HI.out _ HS.out).mono ?_
    rintro e w0 ⟨rfl, hb0⟩
    have HB0' := Lib.hid hb0; have HR0 := Lib.hid (HS.out.under hb0)
    clear hb0
    go_wp2_with fail
    refine (HJ.out _ HR0.out).mono ?_
    rintro e w1 ⟨rfl, hb1⟩
    have hr := HR0.out.under hb1
    obtain ⟨c0, c1, c2, c3, f1, f3⟩ := hr.cells
    obtain ⟨wd, hwd⟩ : ∃ wd, w1.setCell ⟨S.rb, 1, none⟩ (.int .i64 ((i : Int) + 1)) = wd := ⟨_, rfl⟩
    have hrd : Rt S wd (i + 1) (-1) := by rw [← hwd]; exact hr.next hi'.out
    have HRD := Lib.hid hrd; have HB1 := Lib.hid (HB0'.out.trans (hb1.mono HB0'.out.size))
    clear hr hrd hb1
    go_wp2_with fail
    refine (H5.out wd (i + 1) HRD.out HLT.out).mono ?_
    rintro e we ⟨A, M, p, n, c, b, i2, rfl, r2, ho, ht⟩
    obtain ⟨N1, hN1⟩ : ∃ N1, we.heap.size = N1 := ⟨_, rfl⟩
    obtain ⟨wg, hwg⟩ : ∃ wg, we.alloc (.cells #[.int .u8 A, .int .i64 M, .slice p n c] 24) = wg := ⟨_, rfl⟩
    obtain ⟨hg, hp⟩ := ur_end (o := 6) HB.out HB0.out HN.out HS.out HB1.out hwd r2 ho ht hN1 hwg
    obtain ⟨a1, a2, a3, a4, a5, a6⟩ := hg.cells
    rw [← HQ.out, HOO.out] at hp
    have HP := Lib.hid hp
    clear hg hp r2 ho ht
    go_wp2_with fail
    try rw [Exit.noGoto_ret]
    refine bodyPost_ret (v := .agg #[.int .u8 6, .int .i64 0, .slice (some ⟨N1, 0, none⟩) 1 1]) (by simp [results, Try.f48, go_sem, a1, a2, a3]) rfl HP.out
  have hd3 : isB (-1) (S.at i) [33] = false := by unfold isB; simp [h33]
  rw [hd3] at HJ
  have hO : unO f5 f6 (S.at i) = f6 (S.at i) := by unfold unO; rw [if_neg h45, if_neg h33]
  have HQ := Lib.hid hO
  clear hO hd hd3 h45 h33
  go_enter Try.func48, Try.ntmps48
  go_wp2_with fail
  refine (HI.out _ HS.out).mono ?_
  rintro e w0 ⟨rfl, hb0⟩
  have HB0' := Lib.hid hb0; have HR0 := Lib.hid (HS.out.under hb0)
  clear hb0
  go_wp2_with fail
  refine (HJ.out _ HR0.out).mono ?_
  rintro e w1 ⟨rfl, hb1⟩
  have HR1 := Lib.hid (HR0.out.under hb1); have HB1 := Lib.hid (HB0'.out.trans (hb1.mono HB0'.out.size))
  clear hb1
  go_wp2_with fail
  refine (H6.out w1 i HR1.out HL.out).mono ?_
  rintro e we ⟨A, M, p, n, c, b, i2, rfl, r2, ho, ht⟩
  have h1 : Bx w1 N0 0 0 none 0 0 := HB0.out.under HB1.out
  have hg : Bx we N0 0 0 none 0 0 := h1.onlyT ho HR1.out
  obtain ⟨a1, a2, a3, a4, a5, a6⟩ := hg.cells
  have hp := rp_fill ((Only.of_below HB.out).then (Only.of_below HB1.out)) (Nat.le_of_eq HN.out) h1.lt hg r2 ho ht
  rw [← HQ.out, HOO.out] at hp
  have HP := Lib.hid hp
  clear hp
  clear hg h1 r2 ho ht
  go_wp2_with fail
  refine bodyPost_ret (v := .agg #[.int .u8 A, .int .i64 M, .slice p n c]) (by simp [results, Try.f48, go_sem, a1, a2, a3]) rfl HP.out
set_option maxRecDepth 1000000 in
theorem row5_ref {S : Src} {o : Out} {i : Nat} {w : World} (hf : ∀ (w' : World), Rt S w' i (-1) → Calls Try.prog 48 #[ptr S.rb] w' (RPost S o w')) (hs : Rt S w i (-1)) :
    Calls Try.prog 29 #[ptr S.rb, .int .i64 5] w (RPost S o w) := by
  obtain ⟨W, hW⟩ : ∃ W, w.alloc (.cells #[.int .u8 0, .int .i64 0, .slice none 0 0] 24) = W := ⟨_, rfl⟩
  obtain ⟨N0, hN0⟩ : ∃ N, w.heap.size = N := ⟨_, rfl⟩
  have hwb : Below w.heap.size w W := by rw [← hW]; exact (Below.refl _ _).alloc (Nat.le_refl _) _
  have hb0 : Bx W N0 0 0 none 0 0 := by rw [← hW]; exact heap_last hN0.symm
  have HF := Lib.hid (hf W (hs.under hwb))
  have HB := Lib.hid hwb; have HB0 := Lib.hid hb0; have HS := Lib.hid (hs.under hwb); have HN := Lib.hid hN0
  clear hwb hb0 hs hf
  unfold ptr at *
  go_enter Try.func29, Try.ntmps29
  go_wp2_with fail
  refine HF.out.mono ?_
  rintro e we ⟨A, M, p, n, c, b, i2, rfl, r2, ho, ht⟩
  have hg : Bx we N0 0 0 none 0 0 := HB0.out.onlyT ho HS.out
  obtain ⟨a1, a2, a3, a4, a5, a6⟩ := hg.cells
  have HP := Lib.hid (rp_fill (Only.of_below HB.out) (Nat.le_of_eq HN.out) HB0.out.lt hg r2 ho ht)
  clear hg r2 ho ht
  go_wp2_with fail
  refine bodyPost_ret (v := .agg #[.int .u8 A, .int .i64 M, .slice p n c]) (by simp [results, Try.f29, go_sem, a1, a2, a3]) rfl HP.out
end Go.Proofs.Ytnnaejkhbccnaaa.exp
