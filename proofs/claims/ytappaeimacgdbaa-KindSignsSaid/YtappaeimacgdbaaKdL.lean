/- Signs ask for the types that they tell: walked. -/
import Derived.Test.YtappaeimacgdbaaKdJ
namespace Go.Proofs.Ytappaeimacgdbaa.exp
set_option linter.unusedSimpArgs false
set_option linter.unusedVariables false
open Go.RowKit nam lex

/-- Two parts, as one expression. -/
theorem sgn_lies {w : World} {b p1n c1 p2n c2 : Nat} {p1 p2 : Option Addr} {a t : Bool} (hb : w.heap[b]? = some (.cells #[.int .u8 ((sd a).op : Int), .int .i64 (sd a).n, .slice p1 p1n c1, .int .u8 ((sd t).op : Int), .int .i64 (sd t).n, .slice p2 p2n c2] 28 (0, 0)))
    (h1 : Lies w Any (.slice p1 p1n c1) (sd a).args) (h2 : Lies w Any (.slice p2 p2n c2) (sd t).args) : Lies w Any (.slice (some ⟨b, 0, none⟩) 2 2) [sd a, sd t] := lies_two trivial hb h1 h2
set_option maxHeartbeats 4000000 in
set_option maxRecDepth 1000000 in
theorem law_signs (n : Int) (a b : Bool) (h0 : 0 ≤ n) (h1 : n < 256) (w : World) : Calls Try.prog 7 #[.int .u8 n, .bool a, .bool b] w fun e w' => e = .returned (.bool true) ∧ Below w.heap.size w w' := by
  obtain ⟨N, hN⟩ : ∃ N, w.heap.size = N := ⟨_, rfl⟩
  obtain ⟨W, hW⟩ : ∃ W, (((w.alloc (.cells #[.int .u8 2, .int .i64 0, .slice none 0 0, .int .u8 3, .int .i64 0, .slice none 0 0] 28)).alloc (.cells #[.int .u8 1, .int .i64 1, .slice none 0 0] 28)).alloc (.cells #[.int .u8 12, .int .i64 0, .slice (some ⟨N, 0, none⟩) 2 2] 28)) = W := ⟨_, rfl⟩
  have r0 : W.heap[N]? = some (.cells #[.int .u8 2, .int .i64 0, .slice none 0 0, .int .u8 3, .int .i64 0, .slice none 0 0] 28 (0, 0)) := by rw [← hW]; exact heap_old (heap_old (heap_last hN.symm))
  have r1 : W.heap[N + 1]? = some (.cells #[.int .u8 1, .int .i64 1, .slice none 0 0] 28 (0, 0)) := by rw [← hW]; exact heap_old (heap_last (by simp [hN]))
  have r2 : W.heap[N + 1 + 1]? = some (.cells #[.int .u8 12, .int .i64 0, .slice (some ⟨N, 0, none⟩) 2 2] 28 (0, 0)) := by rw [← hW]; exact heap_last (by simp [hN])
  have hwb : Below w.heap.size w W := by rw [← hW]; exact (((Below.refl _ _).alloc (Nat.le_refl _) _).alloc (by simp) _).alloc (by simp; omega) _
  have hsz : W.heap.size = N + 3 := by rw [← hW]; simp [hN]
  have hlr : Lies W Any (.slice (some ⟨N, 0, none⟩) 2 2) [vr 2, vr 3] := lies_two (x := vr 2) (y := vr 3) trivial r0 .nil .nil
  have HS : Hid (∀ (w' : World) (t : Bool), Below W.heap.size W w' → Calls Try.prog 15 #[.bool t, ptr (N + 1 + 1), ptr (N + 1)] w' fun e w'' => ∃ p k c, e = .returned (.agg #[.int .u8 ((sd t).op : Int), .int .i64 (sd t).n, .slice p k c]) ∧ Lies w'' Any (.slice p k c) (sd t).args ∧ Below w'.heap.size w' w'') := Lib.hid (fun w' t hb => by
    have q1 : w'.heap[N + 1]? = some (.cells #[.int .u8 1, .int .i64 1, .slice none 0 0] 28 (0, 0)) := (hb.block _ (by omega)).trans r1
    have q2 : w'.heap[N + 1 + 1]? = some (.cells #[.int .u8 12, .int .i64 0, .slice (some ⟨N, 0, none⟩) 2 2] 28 (0, 0)) := (hb.block _ (by omega)).trans r2
    have := hb.size
    exact side_any t (cell_of q2 rfl) (cell_of q2 rfl) (cell_of q2 rfl) (cell_of q1 rfl) (cell_of q1 rfl) (cell_of q1 rfl) (hlr.under hb) (by omega) (by omega))
  have HB := Lib.hid hwb
  have HW := Lib.hid hW
  clear r0 r1 r2 hwb hsz hlr hW
  unfold ptr at HS
  go_enter Try.func7, Try.ntmps7
  go_upto_region 2 with fail
  rw [HW.out]
  have HN := Lib.hid hN; clear hN
  go_wp2_with fail
  refine (HS.out _ a (Below.refl _ _)).mono ?_
  rintro e w1 ⟨p1, k1, c1, rfl, hl1, hb1⟩
  have HL1 := Lib.hid hl1; have HB1 := Lib.hid hb1
  clear hl1 hb1
  go_wp2_with fail
  refine (HS.out _ b HB1.out).mono ?_
  rintro e w2 ⟨p2, k2, c2, rfl, hl2, hb2⟩
  obtain ⟨N2, hN2⟩ : ∃ N2, w2.heap.size = N2 := ⟨_, rfl⟩
  obtain ⟨w3, hw3⟩ : ∃ w3, w2.alloc (.cells #[.int .u8 ((sd a).op : Int), .int .i64 (sd a).n, .slice p1 k1 c1, .int .u8 ((sd b).op : Int), .int .i64 (sd b).n, .slice p2 k2 c2] 28) = w3 := ⟨_, rfl⟩
  obtain ⟨r, hr⟩ : ∃ r, kindO (sgnX n.toNat a b) false = r := ⟨_, rfl⟩
  have hwb3 : Below w2.heap.size w2 w3 := by rw [← hw3]; exact (Below.refl _ _).alloc (Nat.le_refl _) _
  have hl3 : Lies w3 Any (.slice (some ⟨N2, 0, none⟩) 2 2) [sd a, sd b] := sgn_lies (by rw [← hw3]; exact heap_last hN2.symm) ((HL1.out.under hb2).under hwb3) (hl2.under hwb3)
  have HK : Hid (Calls Try.prog 11 #[.agg #[.int .u8 n, .int .i64 0, .slice (some ⟨N2, 0, none⟩) 2 2], .bool false] w3 fun e w' => e = .returned (.tuple #[.int .u8 (r.1 : Int), .int .i64 r.2]) ∧ Below w3.heap.size w3 w') := Lib.hid (by
    have h := kind_any (x := sgnX n.toNat a b) hl3 (sgn_size _ _ _) false
    rw [hr] at h
    have e : ((sgnX n.toNat a b).op : Int) = n := by show ((n.toNat : Nat) : Int) = n; omega
    unfold exV at h
    rw [e] at h
    exact h)
  have HB3 : Hid (Below w.heap.size w w3) := Lib.hid (by
    have s1 := HB.out.size; have s2 := HB1.out.size; have s3 := hb2.size
    exact ((HB.out.trans (HB1.out.mono s1)).trans (hb2.mono (by omega))).trans (hwb3.mono (by omega)))
  clear hl2 hb2 hwb3 hl3
  go_wp2_with fail
  refine HK.out.mono ?_
  rintro e w4 ⟨rfl, hb4⟩
  have HB4 := Lib.hid (HB3.out.trans (hb4.mono HB3.out.size)); clear hb4
  by_cases hop : 7 ≤ n ∧ n ≤ 17
  · have hr2 := sgn_yes (o := n.toNat) (by omega) a b
    rw [hr] at hr2
    clear hr
    obtain ⟨hop1, hop2⟩ := hop
    rcases (show n = 7 ∨ n = 8 ∨ n = 9 ∨ n = 10 ∨ n = 11 ∨ n = 12 ∨ n = 13 ∨ n = 14 ∨ n = 15 ∨ n = 16 ∨ n = 17 by omega) with rfl | rfl | rfl | rfl | rfl | rfl | rfl | rfl | rfl | rfl | rfl <;> cases a <;> cases b <;>
      (first
        | (replace hr2 : r = (0, 91) := hr2.trans (by decide))
        | (replace hr2 : r = (1, 0) := hr2.trans (by decide))
        | (replace hr2 : r = (2, 0) := hr2.trans (by decide))) <;>
      (subst hr2
       clear h0 h1 hop1 hop2
       go_wp2_with fail
       refine (works_any _).mono ?_
       rintro e w5 ⟨rfl, hb5⟩
       have HB5 := Lib.hid (HB4.out.trans (hb5.mono HB4.out.size)); clear hb5
       go_wp2_with fail
       go_ret
       exact ⟨rfl, HB5.out⟩)
  · rw [sgn_no (by omega)] at hr
    subst hr
    by_cases h7 : n < 7
    · go_wp2_with fail
      refine (works_any _).mono ?_
      rintro e w5 ⟨rfl, hb5⟩
      have HB5 := Lib.hid (HB4.out.trans (hb5.mono HB4.out.size)); clear hb5
      go_wp2_with fail
      go_ret
      exact ⟨rfl, HB5.out⟩
    · have h17 : 17 < n := by omega
      go_wp2_with fail
      refine (works_any _).mono ?_
      rintro e w5 ⟨rfl, hb5⟩
      have HB5 := Lib.hid (HB4.out.trans (hb5.mono HB4.out.size)); clear hb5
      go_wp2_with fail
      go_ret
      exact ⟨rfl, HB5.out⟩
theorem u8_in {a : Int} (h : (Lit.int .u8 a).wf = true) : 0 ≤ a ∧ a < 256 := by
  simp [Lit.wf, IntKind.min, IntKind.max, IntKind.signed, IntKind.bits] at h
  exact ⟨by omega, by omega⟩
end Go.Proofs.Ytappaeimacgdbaa.exp
