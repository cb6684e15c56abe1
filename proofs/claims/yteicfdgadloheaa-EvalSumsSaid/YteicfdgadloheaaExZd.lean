/- What choice answers: walked. -/
import Derived.Test.YteicfdgadloheaaExZc
namespace Go.Proofs.Yteicfdgadloheaa.exp
set_option linter.unusedSimpArgs false
set_option linter.unusedVariables false
open Go.RowKit nam lex

theorem Ch.post {S : Src} {f : List Tok → Out} {O : Out} {w : World} {L N0 N1 N2 : Nat} {wr : World} {i : Nat} {xs : List Ex} (h : Ch S f O w L N0 N1 N2 3 wr i xs) :
    PPost S O w (.returned (.tuple #[.agg #[.int .u8 18, .int .i64 0, .slice (some ⟨N2, 0, none⟩) 3 3], .bool true])) (set3 wr N0 18 0 (some ⟨N2, 0, none⟩) 3 3) := by
  obtain ⟨hn0, hn2, hn1⟩ := h.ord
  refine fin (W := w) (Below.refl _ _) h.only h.box0 (by omega) h.rs (fun _ => ?_) (fun hb => by cases hb)
  refine ⟨.mk 18 0 xs, h.rest.symm, rfl, rfl, h.len.symm, ?_⟩
  obtain ⟨cur, V, a1, a2, a3⟩ := h.row
  exact .row N2 3 3 cur xs V ⟨by omega, by omega⟩ a1 h.len.symm (fun j hj => ⟨(a3 j hj).1, (a3 j hj).2.1, (a3 j hj).2.2.1⟩) fun j hj => (a3 j hj).2.2.2.mono fun q hq => ⟨hq.1, hq.2.1⟩
theorem Ch.bad {S : Src} {f : List Tok → Out} {O : Out} {w wx : World} {L N0 N1 N2 k : Nat} {wr : World} {i : Nat} {xs : List Ex} (h : Ch S f O w L N0 N1 N2 k wr i xs) (hk : k < 3) (hn : txt (S.at i) ≠ wdN k) (hb : Below wr.heap.size wr wx) :
    Bx wx N0 0 0 none 0 0 ∧ PPost S O w (.returned (.tuple #[.agg #[.int .u8 0, .int .i64 0, .slice none 0 0], .bool false])) (set3 wx N0 0 0 none 0 0) := by
  obtain ⟨hn0, hn2, hn1⟩ := h.ord
  exact ⟨h.box0.under hb, fin (W := w) (Below.refl _ _) (h.only.then (.of_below hb)) (h.box0.under hb) (by omega) (h.rs.under hb) (fun hb => by cases hb) (fun _ => by rw [← h.rest, chP_no hk hn])⟩
theorem ChEnd.bad {S : Src} {f : List Tok → Out} {O : Out} {w : World} {L N0 N1 N2 k : Nat} {wx : World} (h : ChEnd S f O w L N0 N1 N2 k false wx) (hn0 : w.heap.size = N0) :
    Bx wx N0 0 0 none 0 0 ∧ PPost S O w (.returned (.tuple #[.agg #[.int .u8 0, .int .i64 0, .slice none 0 0], .bool false])) (set3 wx N0 0 0 none 0 0) := by
  obtain ⟨i, h1, h2, h3, h4⟩ := h.2 rfl
  exact ⟨h2, fin (W := w) (Below.refl _ _) h1 h2 (by omega) h3 (fun hb => by cases hb) (fun _ => h4)⟩
/-- What or, called in a round, leaves: enough for what is stored behind it. -/
def ChOut (S : Src) (f : List Tok → Out) (O : Out) (w w1 : World) (L N0 N1 N2 k : Nat) : Prop :=
  Calls Try.prog 23 #[ptr S.rb] w1 fun e w6 => ∃ (A M : Int) (p : Option Addr) (n c : Nat) (b : Bool), e = .returned (.tuple #[.agg #[.int .u8 A, .int .i64 M, .slice p n c], .bool b]) ∧ w6.cell? ⟨N1, 2, none⟩ = some (.slice (some ⟨N2, 0, none⟩) 3 3) ∧
    (∃ z0 z1 z2, w6.cell? ⟨N2, k * 3, none⟩ = some z0 ∧ w6.cell? ⟨N2, k * 3 + 1, none⟩ = some z1 ∧ w6.cell? ⟨N2, k * 3 + 2, none⟩ = some z2) ∧ w6.frozen? ⟨N2, k * 3, none⟩ = false ∧ w6.frozen? ⟨N2, k * 3 + 1, none⟩ = false ∧ w6.frozen? ⟨N2, k * 3 + 2, none⟩ = false ∧
    Hid (ChEnd S f O w L N0 N1 N2 k b (set3o w6 N2 (k * 3) A M p n c))
theorem ChOut.of {S : Src} {f : List Tok → Out} {O : Out} {w : World} {L N0 N1 N2 k : Nat} {wr w1 : World} {i : Nat} {xs : List Ex} (h : Ch S f O w L N0 N1 N2 k wr i xs) (hk : k < 3) (ht : txt (S.at i) = wdN k) (ho1 : Only (Mine S) wr w1) (hr1 : Rs S w1 (i + 1)) (hfl : ∀ l, Less l.length (f l))
    (hf : ∀ (w' : World) (i' : Nat), Rs S w' i' → (S.at i').length < L → Calls Try.prog 23 #[ptr S.rb] w' (PPost S (f (S.at i')) w')) : ChOut S f O w w1 L N0 N1 N2 k := by
  have hlt : (S.at (i + 1)).length < L := by
    have := h.few
    have h2 := at_lt (S := S) (i := i) (by rw [ht]; exact (wds_ok hk).1)
    have e := at_len S i
    have e1 := at_len S (i + 1)
    omega
  refine (hf w1 (i + 1) hr1 hlt).mono ?_
  rintro e w6 ⟨A, M, p, n, c, b, i6, rfl, hr6, ho6, h6⟩
  obtain ⟨a1, a2, a3, a4⟩ := h.next hk ht ho1 hr1 hfl hr6 ho6 h6
  exact ⟨A, M, p, n, c, b, rfl, a1, a2, a3 _, a3 _, a3 _, Lib.hid a4⟩

set_option maxHeartbeats 1600000 in
set_option maxRecDepth 1000000 in
theorem choice_any {S : Src} {f : List Tok → Out} {L i : Nat} {w : World} (hf : ∀ (w' : World) (i' : Nat), Rs S w' i' → (S.at i').length < L → Calls Try.prog 23 #[ptr S.rb] w' (PPost S (f (S.at i')) w')) (hfl : ∀ l, Less l.length (f l)) (hs : Rs S w i) (hL : (S.at i).length ≤ L) (ht : txt (S.at i) = wIf) :
    Calls Try.prog 85 #[ptr S.rb] w (PPost S (ifP f (S.at i)) w) := by
  have hmk : ∀ w : World, (Instr.makeSlice 22 (.int .i64 3) (.int .i64 3)).run Try.prog w = .ok (.slice (some ⟨w.heap.size, 0, none⟩) 3 3) (w.alloc (.cells #[.int .u8 0, .int .i64 0, .slice none 0 0, .int .u8 0, .int .i64 0, .slice none 0 0, .int .u8 0, .int .i64 0, .slice none 0 0] 24)) := fun _ => by kernel_rfl
  obtain ⟨O, hO⟩ : ∃ O, ifP f (S.at i) = O := ⟨_, rfl⟩
  rw [hO]
  obtain ⟨N0, hN0⟩ : ∃ N, w.heap.size = N := ⟨_, rfl⟩
  obtain ⟨W, hW⟩ : ∃ W, ((w.alloc (.cells #[.int .u8 0, .int .i64 0, .slice none 0 0] 24)).alloc (.cells #[.int .u8 0, .int .i64 0, .slice none 0 0, .int .u8 0, .int .i64 0, .slice none 0 0, .int .u8 0, .int .i64 0, .slice none 0 0] 24)).alloc (.cells #[.int .u8 18, .int .i64 0, .slice (some ⟨N0 + 1, 0, none⟩) 3 3] 24) = W := ⟨_, rfl⟩
  have HCH : Hid (Ch S f O w L N0 (N0 + 1 + 1) (N0 + 1) 0 W i []) := Lib.hid (by
    have hb : Below w.heap.size w W := by rw [← hW]; exact (((Below.refl _ _).alloc (Nat.le_refl _) _).alloc (by simp) _).alloc (by simp; omega) _
    refine ⟨.of_below hb, ?_, ?_, ⟨#[.int .u8 0, .int .i64 0, .slice none 0 0, .int .u8 0, .int .i64 0, .slice none 0 0, .int .u8 0, .int .i64 0, .slice none 0 0], fun _ => undef, ?_, rfl, fun j hj => by simp at hj⟩, hs.under hb, rfl, by rw [← hO]; exact chP_if ht, hL, hN0, rfl, rfl⟩
    · rw [← hW]; exact heap_old (heap_old (heap_last hN0.symm))
    · rw [← hW]; exact heap_last (by simp [hN0])
    · rw [← hW]; exact heap_old (heap_last (by simp [hN0])))
  have HF := Lib.hid hf; have HFL := Lib.hid hfl; have HN := Lib.hid hN0
  clear hf hfl hs hL ht hO
  unfold ptr at *
  go_enter Try.func85, Try.ntmps85
  go_wp2_with fail
  go_loopg [11, 5, 6, 7] 3 (fun g v11 v5 v6 v7 wr => ∃ (k i : Nat) (xs : List Ex), k + g = 3 ∧ v11 = .int .i64 (k : Int) ∧ Ch S f O w L N0 (N0 + 1 + 1) (N0 + 1) k wr i xs)
  case atStart => exact ⟨0, i, [], by omega, rfl, HCH.out⟩
  case round =>
    rename World => wr
    obtain ⟨k, j, xs, hk, rfl, hch⟩ := hrel
    have HR := Lib.hid hch; clear hch
    by_cases hk3 : k < 3
    · have hix : ∀ w : World, (Instr.index 115 (.agg #[.string ⟨#[105, 102]⟩, .string ⟨#[116, 104, 101, 110]⟩, .string ⟨#[101, 108, 115, 101]⟩]) (.int .i64 (k : Int))).run Try.prog w = .ok (.string (wdB k)) w := by
        rcases (show k = 0 ∨ k = 1 ∨ k = 2 by omega) with rfl | rfl | rfl <;> exact fun _ => by kernel_rfl
      have hki : (k : Int) < 3 := by omega
      obtain ⟨T, hT⟩ : ∃ T, wdB k = T := ⟨_, rfl⟩
      rw [hT] at hix
      have HW := Lib.hid ((wds_ok hk3).2.2.trans hT)
      clear hT
      by_cases htx : txt (S.at j) = wdN k
      · have HC := Lib.hid (takes_yes HR.out.rs (wds_ok hk3).1 HW.out htx)
        have HTX := Lib.hid htx; clear htx
        unfold ptr at HC
        go_wp2_with fail
        refine HC.out.mono ?_
        rintro e w1 ⟨rfl, hr1, ho1⟩
        have HOUT := Lib.hid (ChOut.of HR.out hk3 HTX.out ho1.drew hr1.drew HFL.out HF.out)
        have s1 : w1.cell? ⟨N0 + 1 + 1, 2, none⟩ = some (.slice (some ⟨N0 + 1, 0, none⟩) 3 3) := (HR.out.only' (j := 0) ho1).2.2.1.cells.2.2.1
        unfold ChOut ptr at HOUT
        clear hr1 ho1
        go_wp2_with fail
        go_upto_region 7 with fail
        go_cut [7] (fun t wx => ∃ b : Bool, t = .bool b ∧ ChEnd S f O w L N0 (N0 + 1 + 1) (N0 + 1) k b wx)
        case first =>
          go_region_with (go_at_call 23; (refine HOUT.out.mono ?_); rintro e w6 ⟨A, M, p, n, c, b, rfl, g1, ⟨z0, z1, z2, g2, g3, g4⟩, g5, g6, g7, hend⟩)
          all_goals (go_wp2_with fail; go_meet; exact ⟨b, rfl, (by first | exact hend.out | exact hend.out.drew)⟩)
        case rest =>
          rename World => w4
          obtain ⟨b, rfl, hend⟩ := hcut
          cases b with
          | true =>
            obtain ⟨i', xs', hn⟩ := hend.1 rfl
            have HNX := Lib.hid hn
            clear hn hend
            go_wp2_with fail
            go_roundg (gk - 1)
            case measure => omega
            case rel => exact ⟨k + 1, i', xs', by omega, by go_num, HNX.out⟩
          | false =>
            obtain ⟨h0, hp⟩ := hend.bad HN.out
            have HP := Lib.hid hp
            obtain ⟨a1, a2, a3, a4, a5, a6⟩ := h0.cells
            clear hend h0 hp
            go_wp2_with fail
            try rw [Exit.noGoto_ret]
            refine bodyPost_ret (v := .tuple #[.agg #[.int .u8 0, .int .i64 0, .slice none 0 0], .bool false]) (by simp [results, Try.f85, go_sem, a1, a2, a3]) rfl HP.out
      · have HC := Lib.hid (takes_no HR.out.rs (wds_ok hk3).2.1 HW.out htx)
        have HTX := Lib.hid htx; clear htx
        unfold ptr at HC
        go_wp2_with fail
        refine HC.out.mono ?_
        rintro e w1 ⟨rfl, hr1, hb1⟩
        obtain ⟨h0, hp⟩ := HR.out.bad hk3 HTX.out hb1
        have HP := Lib.hid hp
        obtain ⟨a1, a2, a3, a4, a5, a6⟩ := h0.cells
        clear hr1 hb1 h0 hp
        go_wp2_with fail
        try rw [Exit.noGoto_ret]
        refine bodyPost_ret (v := .tuple #[.agg #[.int .u8 0, .int .i64 0, .slice none 0 0], .bool false]) (by simp [results, Try.f85, go_sem, a1, a2, a3]) rfl HP.out
    · obtain rfl : k = 3 := by omega
      have HP := Lib.hid HR.out.post
      obtain ⟨a1, a2, a3, a4, a5, a6⟩ := HR.out.box0.cells
      obtain ⟨b1, b2, b3, _⟩ := HR.out.box1.cells
      go_wp2_with fail
      try rw [Exit.noGoto_ret]
      refine bodyPost_ret (v := .tuple #[.agg #[.int .u8 18, .int .i64 0, .slice (some ⟨N0 + 1, 0, none⟩) 3 3], .bool true]) (by simp [results, Try.f85, go_sem, a1, a2, a3]) rfl HP.out
end Go.Proofs.Yteicfdgadloheaa.exp
