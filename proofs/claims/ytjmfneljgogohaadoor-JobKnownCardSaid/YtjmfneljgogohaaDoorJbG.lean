/- Whether a node may be at a place. -/
import Derived.Test.YtjmfneljgogohaaDoorJbF
namespace Go.Proofs.YtjmfneljgogohaaDoor.jb
set_option linter.unusedSimpArgs false
set_option linter.unusedVariables false
open Go.RowKit nam exp

/-- A block's first seven cells. -/
def Box7 (w : World) (k : Nat) (a b c d e f g : Value) : Prop := w.cell? ⟨k, 0, none⟩ = some a ∧ w.cell? ⟨k, 1, none⟩ = some b ∧ w.cell? ⟨k, 2, none⟩ = some c ∧ w.cell? ⟨k, 3, none⟩ = some d ∧ w.cell? ⟨k, 4, none⟩ = some e ∧ w.cell? ⟨k, 5, none⟩ = some f ∧ w.cell? ⟨k, 6, none⟩ = some g
theorem Box7.on {w w' : World} {k : Nat} {a b c d e f g : Value} (h : Box7 w k a b c d e f g) (hb : Below w.heap.size w w') : Box7 w' k a b c d e f g := by
  obtain ⟨h0, h1, h2, h3, h4, h5, h6⟩ := h
  exact ⟨cell_on h0 hb, cell_on h1 hb, cell_on h2 hb, cell_on h3 hb, cell_on h4 hb, cell_on h5 hb, cell_on h6 hb⟩
theorem many_le (k : Nat) : (askR k).many ≤ 1000000 := by
  match k with
  | 0 | 1 | 2 | 3 | 4 | 5 | 6 | 7 | 8 | 9 => exact of_decide_eq_true rfl
  | k + 10 => exact of_decide_eq_true (show decide (ask0.many ≤ 1000000) = true from rfl)
set_option maxHeartbeats 1600000 in
set_option maxRecDepth 1000000 in
theorem mayStand_any {w : World} {nd : Nd} {v : Value} {p : Nat} (ht : Tab w) (h : NodeIs w v nd) (hs : nd.x.size ≤ 1000000) :
    Calls Tryd.prog 33 #[v, .int .i64 (p : Int)] w fun e w' => e = .returned (.bool (mayB nd p)) ∧ Below w.heap.size w w' := by
  obtain ⟨vi, va, rfl, hi, hx⟩ := h
  obtain ⟨N, hN⟩ : ∃ N, w.heap.size = N := ⟨_, rfl⟩
  obtain ⟨W, hW⟩ : ∃ W, w.alloc (.cells #[.string nd.uid, .int .u8 (nd.kind : Int), vi, .int .u8 (nd.x.op : Int), .int .i64 nd.x.n, va, .int .i64 nd.n] 30) = W := ⟨_, rfl⟩
  have hwb : Below w.heap.size w W := by rw [← hW]; exact below_made _ _
  have bn : Box7 W N (.string nd.uid) (.int .u8 (nd.kind : Int)) vi (.int .u8 (nd.x.op : Int)) (.int .i64 nd.x.n) va (.int .i64 nd.n) := hN ▸ box7 hW
  have HBN := Lib.hid bn
  obtain ⟨n0, n1, n2, n3, n4, n5, n6⟩ := bn
  have HAS := Lib.hid (asked_at (ht.on hwb) (k := nd.kind))
  obtain ⟨uid, kind, ins, x, n⟩ := nd
  obtain ⟨a, ha⟩ : ∃ a, askR kind = a := ⟨_, rfl⟩
  have hml := many_le kind
  have HAS : Hid (Calls Tryd.prog 29 #[.int .u8 (kind : Int)] W fun e w' => e = .returned (.tuple #[askV a, .bool (kindOk kind)]) ∧ Below W.heap.size W w') := ha ▸ HAS
  have hml : a.many ≤ 1000000 := ha ▸ hml
  have HTI : Hid (∀ w', Below W.heap.size W w' → Calls Tryd.prog 43 #[askV a, vi, .int .i64 (p : Int)] w' fun e w'' => e = .returned (.bool (takesInB a ins p)) ∧ Below w'.heap.size w' w'') := Lib.hid (fun w' hb => takesIn_any a hml ((hi.on hwb).on hb))
  have HTX : Hid (∀ w', Below W.heap.size W w' → Calls Tryd.prog 44 #[askV a, exV x va] w' fun e w'' => e = .returned (.bool (takesXB a x)) ∧ Below w'.heap.size w' w'') := Lib.hid (fun w' hb => takesX_any a ((hx.under hwb).under hb) hs)
  have HNM : Hid (∀ w', Calls Tryd.prog 17 #[.string uid] w' fun e w'' => e = .returned (.bool (nameB uid)) ∧ Below w'.heap.size w' w'') := Lib.hid (fun w' => name_any uid w')
  obtain ⟨few, many, ty, acc, least, most, keeps⟩ := a
  obtain ⟨kb, hkb⟩ : ∃ b, kindOk kind = b := ⟨_, rfl⟩
  obtain ⟨nb, hnb⟩ : ∃ b, nameB uid = b := ⟨_, rfl⟩
  obtain ⟨ib, hib⟩ : ∃ b, takesInB ⟨few, many, ty, acc, least, most, keeps⟩ ins p = b := ⟨_, rfl⟩
  obtain ⟨xb, hxb⟩ : ∃ b, takesXB ⟨few, many, ty, acc, least, most, keeps⟩ x = b := ⟨_, rfl⟩
  have HR : Hid (mayB ⟨uid, kind, ins, x, n⟩ p = (kb && nb && ib && xb && decide (least ≤ n) && decide (n ≤ most))) := Lib.hid (by unfold mayB; rw [← hkb, ← hnb, ← hib, ← hxb, ← ha]; show _ = (_ && _ && _ && _ && decide ((⟨few, many, ty, acc, least, most, keeps⟩ : Ask).least ≤ n) && decide (n ≤ (⟨few, many, ty, acc, least, most, keeps⟩ : Ask).most)); rw [← ha])
  rw [HR.out]
  rw [hkb] at HAS
  rw [hnb] at HNM
  rw [hib] at HTI
  rw [hxb] at HTX
  have HB := Lib.hid hwb
  clear ht hi hx hs hwb hml ha hkb hnb hib hxb HR
  unfold nodeV
  unfold askV at *
  unfold exV at *
  have hor : (¬ least ≤ n) ∨ (least ≤ n ∧ ¬ n ≤ most) ∨ (least ≤ n ∧ n ≤ most) := by omega
  go_enter Tryd.func33, Tryd.ntmps33
  go_wp2_with fail
  refine HAS.out.mono ?_
  rintro e w1 ⟨rfl, hb1⟩
  have e0 := HBN.out.on (hb1.trans (below_made _ (.cells #[.int .i64 few, .int .i64 many, .int .u8 (ty : Int), .bool acc, .int .i64 least, .int .i64 most, .bool keeps] 54) |>.mono hb1.size))
  have a0 : Box7 (w1.alloc (.cells #[.int .i64 few, .int .i64 many, .int .u8 (ty : Int), .bool acc, .int .i64 least, .int .i64 most, .bool keeps] 54)) w1.heap.size (.int .i64 few) (.int .i64 many) (.int .u8 (ty : Int)) (.bool acc) (.int .i64 least) (.int .i64 most) (.bool keeps) := box7 rfl
  have HB1 := Lib.hid (hb1.trans (below_made _ (.cells #[.int .i64 few, .int .i64 many, .int .u8 (ty : Int), .bool acc, .int .i64 least, .int .i64 most, .bool keeps] 54) |>.mono hb1.size))
  have HE := Lib.hid e0
  have HA := Lib.hid a0
  obtain ⟨m0, m1, m2, m3, m4, m5, m6⟩ := e0
  obtain ⟨r0, r1, r2, r3, r4, r5, r6⟩ := a0
  clear hb1 n0 n1 n2 n3 n4 n5 n6
  cases kb with
  | false =>
    go_wp2_with fail
    go_ret
    exact ⟨ret_bool (by simp), by first | exact HB.out.trans (HB1.out.mono HB.out.size) | exact hN ▸ HB.out.trans (HB1.out.mono HB.out.size)⟩
  | true =>
  go_wp2_with fail
  obtain ⟨V, hV⟩ : ∃ V, w1.alloc (.cells #[.int .i64 few, .int .i64 many, .int .u8 (ty : Int), .bool acc, .int .i64 least, .int .i64 most, .bool keeps] 54) = V := ⟨_, rfl⟩
  obtain ⟨M, hM⟩ : ∃ M, w1.heap.size = M := ⟨_, rfl⟩
  rw [hV] at HB1 HE HA ⊢
  rw [hM] at HA ⊢
  clear hV hM m0 m1 m2 m3 m4 m5 m6 r0 r1 r2 r3 r4 r5 r6
  refine (HNM.out V).mono ?_
  rintro e w2 ⟨rfl, hb2⟩
  have HB2 := Lib.hid (HB1.out.trans (hb2.mono HB1.out.size))
  obtain ⟨m0, m1, m2, m3, m4, m5, m6⟩ := HE.out.on hb2
  obtain ⟨r0, r1, r2, r3, r4, r5, r6⟩ := HA.out.on hb2
  have HE2 := Lib.hid (HE.out.on hb2); have HA2 := Lib.hid (HA.out.on hb2)
  clear hb2
  cases nb with
  | false =>
    go_wp2_with fail
    go_ret
    exact ⟨ret_bool (by simp), by first | exact HB.out.trans (HB2.out.mono HB.out.size) | exact hN ▸ HB.out.trans (HB2.out.mono HB.out.size)⟩
  | true =>
  have HC := Lib.hid (HTI.out w2 HB2.out)
  go_wp2_with fail
  refine HC.out.mono ?_
  clear m0 m1 m2 m3 m4 m5 m6 r0 r1 r2 r3 r4 r5 r6
  rintro e w3 ⟨rfl, hb3⟩
  have HB3 := Lib.hid (HB2.out.trans (hb3.mono HB2.out.size))
  obtain ⟨m0, m1, m2, m3, m4, m5, m6⟩ := HE2.out.on hb3
  obtain ⟨r0, r1, r2, r3, r4, r5, r6⟩ := HA2.out.on hb3
  have HE3 := Lib.hid (HE2.out.on hb3); have HA3 := Lib.hid (HA2.out.on hb3)
  clear hb3
  cases ib with
  | false =>
    go_wp2_with fail
    go_ret
    exact ⟨ret_bool (by simp), by first | exact HB.out.trans (HB3.out.mono HB.out.size) | exact hN ▸ HB.out.trans (HB3.out.mono HB.out.size)⟩
  | true =>
  have HC3 := Lib.hid (HTX.out w3 HB3.out)
  go_wp2_with fail
  refine HC3.out.mono ?_
  clear m0 m1 m2 m3 m4 m5 m6 r0 r1 r2 r3 r4 r5 r6
  rintro e w4 ⟨rfl, hb4⟩
  have HB4 := Lib.hid (HB3.out.trans (hb4.mono HB3.out.size))
  obtain ⟨m0, m1, m2, m3, m4, m5, m6⟩ := HE3.out.on hb4
  obtain ⟨r0, r1, r2, r3, r4, r5, r6⟩ := HA3.out.on hb4
  have HZ := Lib.hid (HB.out.trans (HB4.out.mono HB.out.size))
  clear hb4
  cases xb with
  | false =>
    go_wp2_with fail
    go_ret
    exact ⟨ret_bool (by simp), by first | exact HZ.out | exact hN ▸ HZ.out⟩
  | true =>
  rcases hor with h1 | ⟨h1, h2⟩ | ⟨h1, h2⟩
  all_goals
    go_wp2_with fail
    go_ret
    exact ⟨ret_bool (by simp [h1]; try omega), by first | exact HZ.out | exact hN ▸ HZ.out⟩
end Go.Proofs.YtjmfneljgogohaaDoor.jb
