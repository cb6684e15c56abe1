/- What unary answers. -/
import Derived.Test.YteicfdgadloheaaExZ
namespace Go.Proofs.Yteicfdgadloheaa.exp
set_option linter.unusedSimpArgs false
set_option linter.unusedVariables false
open Go.RowKit nam lex

theorem lies_one {w : World} {F : Nat → Prop} {b c1 n1 : Nat} {p1 : Option Addr} {x : Ex} (hF : F b) (hb : w.heap[b]? = some (.cells #[.int .u8 (x.op : Int), .int .i64 x.n, .slice p1 n1 c1] 24 (0, 0)))
    (h1 : Lies w F (.slice p1 n1 c1) x.args) : Lies w F (.slice (some ⟨b, 0, none⟩) 1 1) [x] := by
  refine .row b 1 1 _ [x] (fun _ => .slice p1 n1 c1) hF hb rfl ?_ ?_
  · intro i hi
    match i, hi with
    | 0, _ => exact ⟨rfl, rfl, rfl⟩
  · intro i hi
    match i, hi with
    | 0, _ => exact h1
def unO (f5 f6 : List Tok → Out) (l : List Tok) : Out :=
  if txt l = [45] then (match f5 l.tail with | .bad l' => .bad l' | .ok x l' => .ok (.mk 5 0 [x]) l') else if txt l = [33] then (match f5 l.tail with | .bad l' => .bad l' | .ok x l' => .ok (.mk 6 0 [x]) l') else f6 l
theorem un_end {S : Src} {f : List Tok → Out} {w W w1 w2 w3 w4 : World} {N0 N1 i0 i1 i2 o n c : Nat} {A N : Int} {p : Option Addr} {b : Bool} (hb : Below w.heap.size w W) (h0 : Bx W N0 0 0 none 0 0) (hN0 : w.heap.size = N0) (r0 : Rs S W i0) (ho1 : Only (Mine S) W w1) (r1 : Rs S w1 i1)
    (r2 : Rs S w2 i2) (ho2 : Only (Mine S) w1 w2) (ht : Tells S (From w1) (f (S.at i1)) w2 A N p n c b i2) (hN1 : w2.heap.size = N1) (hw3 : w2.alloc (.cells #[.int .u8 A, .int .i64 N, .slice p n c] 24) = w3) (hw4 : w3.alloc (.cells #[.int .u8 A, .int .i64 N, .slice p n c] 24) = w4) :
    Bx w4 N0 0 0 none 0 0 ∧ Bx w3 N1 A N p n c ∧ w3.heap.size = N1 + 1 ∧ PPost S (match f (S.at i1) with | .bad l' => .bad l' | .ok x l' => .ok (.mk o 0 [x]) l') w (.returned (.tuple #[.agg #[.int .u8 (o : Int), .int .i64 0, .slice (some ⟨N1 + 1, 0, none⟩) 1 1], .bool b])) (set3 w4 N0 (o : Int) 0 (some ⟨N1 + 1, 0, none⟩) 1 1) := by
  have e0 : Bx w1 N0 0 0 none 0 0 := h0.only ho1 r0
  have e1 : Bx w2 N0 0 0 none 0 0 := e0.only ho2 r1
  have hb3 : Below w2.heap.size w2 w3 := by rw [← hw3]; exact (Below.refl _ _).alloc (Nat.le_refl _) _
  have hb4 : Below w3.heap.size w3 w4 := by rw [← hw4]; exact (Below.refl _ _).alloc (Nat.le_refl _) _
  have hs3 : w3.heap.size = N1 + 1 := by rw [← hw3]; simp [hN1]
  have hb24 : Below w2.heap.size w2 w4 := hb3.trans (hb4.mono hb3.size)
  have e4 : Bx w4 N0 0 0 none 0 0 := e1.under hb24
  have l1 := e0.lt
  have l2 := h0.lt
  have z1 := ho1.size
  have z2 := ho2.size
  have z0 := hb.size
  refine ⟨e4, by rw [← hw3]; exact heap_last hN1.symm, hs3, (o : Int), 0, _, 1, 1, b, i2, rfl, (r2.under hb24).set3 e4, set3_only (((Only.of_below hb).then ho1).then (ho2.then (.of_below hb24))) (by omega), ?_⟩
  cases hfo : f (S.at i1) with
  | bad l => rw [hfo] at ht; exact ht
  | ok x l =>
    rw [hfo] at ht
    obtain ⟨t0, t1, t2, t3, t4, t5⟩ := ht
    refine ⟨t0, rfl, rfl, rfl, ?_, t5⟩
    have hrow : w4.heap[N1 + 1]? = some (.cells #[.int .u8 A, .int .i64 N, .slice p n c] 24 (0, 0)) := by rw [← hw4]; exact heap_last hs3.symm
    subst t1; subst t2; subst t3
    refine lies_one (x := x) (by unfold From; omega) ((set3_other (by omega)).trans hrow) (((t4.under hb24).frame fun k cc hk hcc => set3_other ?_).mono fun k hk => ?_)
    · unfold From at hk; omega
    · unfold From at *; omega

set_option maxHeartbeats 1600000 in
set_option maxRecDepth 1000000 in
theorem unary_any {S : Src} {f5 f6 : List Tok → Out} {L i : Nat} {w : World} (hf5 : ∀ (w' : World) (i' : Nat), Rs S w' i' → (S.at i').length < L → Calls Try.prog 81 #[ptr S.rb] w' (PPost S (f5 (S.at i')) w')) (hf6 : ∀ (w' : World) (i' : Nat), Rs S w' i' → (S.at i').length ≤ L → Calls Try.prog 84 #[ptr S.rb] w' (PPost S (f6 (S.at i')) w'))
    (hs : Rs S w i) (hL : (S.at i).length ≤ L) : Calls Try.prog 81 #[ptr S.rb] w (PPost S (unO f5 f6 (S.at i)) w) := by
  obtain ⟨W, hW⟩ : ∃ W, w.alloc (.cells #[.int .u8 0, .int .i64 0, .slice none 0 0] 24) = W := ⟨_, rfl⟩
  obtain ⟨N0, hN0⟩ : ∃ N, w.heap.size = N := ⟨_, rfl⟩
  have hwb : Below w.heap.size w W := by rw [← hW]; exact (Below.refl _ _).alloc (Nat.le_refl _) _
  have hb0 : Bx W N0 0 0 none 0 0 := by rw [← hW]; exact heap_last hN0.symm
  have hsW := hs.under hwb
  have t45 : textOf [45] = ⟨#[45]⟩ := lit1 45 (by decide)
  have t33 : textOf [33] = ⟨#[33]⟩ := lit1 33 (by decide)
  have HB := Lib.hid hwb; have HB0 := Lib.hid hb0; have HS := Lib.hid hsW; have HN := Lib.hid hN0; have H5 := Lib.hid hf5; have H6 := Lib.hid hf6; have HL := Lib.hid hL
  have HT45 := Lib.hid t45; have HT33 := Lib.hid t33
  clear hwb hb0 hs hsW hf5 hf6 t45 t33 hL
  obtain ⟨O, hO⟩ : ∃ O, unO f5 f6 (S.at i) = O := ⟨_, rfl⟩
  rw [hO]
  by_cases h45 : txt (S.at i) = [45]
  · have HO : Hid (O = match f5 (S.at (i + 1)) with | .bad l' => .bad l' | .ok x l' => .ok (.mk 5 0 [x]) l') := Lib.hid (by rw [← hO]; unfold unO; rw [if_pos h45, at_tail])
    have HC := Lib.hid (takes_yes HS.out (by simp) HT45.out h45)
    have HLT : Hid ((S.at (i + 1)).length < L) := Lib.hid (by have := HL.out; have := at_lt (S := S) (i := i) (by rw [h45]; simp); rw [at_len] at *; omega)
    clear hO h45
    unfold ptr at *
    go_enter Try.func81, Try.ntmps81
    go_wp2_with fail
    refine HC.out.mono ?_
    rintro e w1 ⟨rfl, hr1, ho1⟩
    have HR1 := Lib.hid hr1; have HO1 := Lib.hid ho1; clear hr1 ho1
    go_wp2_with fail
    refine (H5.out w1 (i + 1) HR1.out HLT.out).mono ?_
    rintro e w2 ⟨A, N, p, n, c, b, i2, rfl, hr2, ho2, ht2⟩
    obtain ⟨N1, hN1⟩ : ∃ N1, w2.heap.size = N1 := ⟨_, rfl⟩
    obtain ⟨w3, hw3⟩ : ∃ w3, w2.alloc (.cells #[.int .u8 A, .int .i64 N, .slice p n c] 24) = w3 := ⟨_, rfl⟩
    obtain ⟨w4, hw4⟩ : ∃ w4, w3.alloc (.cells #[.int .u8 A, .int .i64 N, .slice p n c] 24) = w4 := ⟨_, rfl⟩
    obtain ⟨e4, e3, hs3, hp⟩ := un_end (o := 5) HB.out HB0.out HN.out HS.out HO1.out HR1.out hr2 ho2 ht2 hN1 hw3 hw4
    rw [← HO.out] at hp
    have HP := Lib.hid hp
    obtain ⟨a1, a2, a3, a4, a5, a6⟩ := e4.cells
    obtain ⟨b1, b2, b3, _⟩ := e3.cells
    clear hr2 ho2 ht2 e4 e3 hp
    go_wp2_with fail
    refine bodyPost_ret (v := .tuple #[.agg #[.int .u8 5, .int .i64 0, .slice (some ⟨N1 + 1, 0, none⟩) 1 1], .bool b]) (by simp [results, Try.f81, go_sem, a1, a2, a3]) rfl HP.out
  · have HC := Lib.hid (takes_no HS.out (t := [45]) (by simp [okR]) HT45.out h45)
    by_cases h33 : txt (S.at i) = [33]
    · have HO : Hid (O = match f5 (S.at (i + 1)) with | .bad l' => .bad l' | .ok x l' => .ok (.mk 6 0 [x]) l') := Lib.hid (by rw [← hO]; unfold unO; rw [if_neg h45, if_pos h33, at_tail])
      have H33 := Lib.hid h33
      have HLT : Hid ((S.at (i + 1)).length < L) := Lib.hid (by have := HL.out; have := at_lt (S := S) (i := i) (by rw [h33]; simp); rw [at_len] at *; omega)
      clear hO h45 h33
      unfold ptr at *
      go_enter Try.func81, Try.ntmps81
      go_wp2_with fail
      refine HC.out.mono ?_
      rintro e w0 ⟨rfl, hr0, hb0⟩
      have HR0 := Lib.hid hr0; have HBB := Lib.hid hb0; clear hr0 hb0
      go_wp2_with fail
      refine (takes_yes HR0.out (by simp) HT33.out H33.out).mono ?_
      rintro e w1 ⟨rfl, hr1, ho1⟩
      have HR1 := Lib.hid hr1; have HO1 := Lib.hid ((Only.of_below HBB.out).then ho1); clear hr1 ho1
      go_wp2_with fail
      refine (H5.out w1 (i + 1) HR1.out HLT.out).mono ?_
      rintro e w2 ⟨A, N, p, n, c, b, i2, rfl, hr2, ho2, ht2⟩
      obtain ⟨N1, hN1⟩ : ∃ N1, w2.heap.size = N1 := ⟨_, rfl⟩
      obtain ⟨w3, hw3⟩ : ∃ w3, w2.alloc (.cells #[.int .u8 A, .int .i64 N, .slice p n c] 24) = w3 := ⟨_, rfl⟩
      obtain ⟨w4, hw4⟩ : ∃ w4, w3.alloc (.cells #[.int .u8 A, .int .i64 N, .slice p n c] 24) = w4 := ⟨_, rfl⟩
      obtain ⟨e4, e3, hs3, hp⟩ := un_end (o := 6) HB.out HB0.out HN.out HS.out HO1.out HR1.out hr2 ho2 ht2 hN1 hw3 hw4
      rw [← HO.out] at hp
      have HP := Lib.hid hp
      obtain ⟨a1, a2, a3, a4, a5, a6⟩ := e4.cells
      obtain ⟨b1, b2, b3, _⟩ := e3.cells
      clear hr2 ho2 ht2 e4 e3 hp
      go_wp2_with fail
      refine bodyPost_ret (v := .tuple #[.agg #[.int .u8 6, .int .i64 0, .slice (some ⟨N1 + 1, 0, none⟩) 1 1], .bool b]) (by simp [results, Try.f81, go_sem, a1, a2, a3]) rfl HP.out
    · have HO : Hid (O = f6 (S.at i)) := Lib.hid (by rw [← hO]; unfold unO; rw [if_neg h45, if_neg h33])
      have H33 := Lib.hid h33
      clear hO h45 h33
      unfold ptr at *
      go_enter Try.func81, Try.ntmps81
      go_wp2_with fail
      refine HC.out.mono ?_
      rintro e w0 ⟨rfl, hr0, hb0⟩
      have HR0 := Lib.hid hr0; have HBB := Lib.hid hb0; clear hr0 hb0
      go_wp2_with fail
      refine (takes_no HR0.out (t := [33]) (by simp [okR]) HT33.out H33.out).mono ?_
      rintro e w1 ⟨rfl, hr1, hb1⟩
      have HR1 := Lib.hid hr1; have HBC := Lib.hid (HBB.out.trans (hb1.mono HBB.out.size)); clear hr1 hb1
      go_wp2_with fail
      refine (H6.out w1 i HR1.out HL.out).mono ?_
      rintro e w2 ⟨A, N, p, n, c, b, i2, rfl, hr2, ho2, ht2⟩
      obtain ⟨h3, hp⟩ := wrap (HB.out.trans (HBC.out.mono HB.out.size)) (HB0.out.under HBC.out) (by have := HN.out; omega) HR1.out hr2 ho2 ht2
      rw [← HO.out] at hp
      have HP := Lib.hid hp
      obtain ⟨a1, a2, a3, a4, a5, a6⟩ := h3.cells
      clear hr2 ho2 ht2 h3 hp
      go_wp2_with fail
      refine bodyPost_ret (v := .tuple #[.agg #[.int .u8 A, .int .i64 N, .slice p n c], .bool b]) (by simp [results, Try.f81, go_sem, a1, a2, a3]) rfl HP.out
end Go.Proofs.Yteicfdgadloheaa.exp
