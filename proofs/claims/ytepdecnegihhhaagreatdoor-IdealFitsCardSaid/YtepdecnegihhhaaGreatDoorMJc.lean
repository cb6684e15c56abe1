/- Whether a node may be at a place. Rows of nodes asked about by a function, whatever it .. -/
import Derived.Test.YtepdecnegihhhaaGreatDoorMJb
import Derived.Deep.RegionWith
set_option linter.unusedSimpArgs false
set_option linter.unusedVariables false
namespace Go.Proofs.YtepdecnegihhhaaGreatDoor.jb
section
open Go.RowKit nam exp
def Box7 (w : World) (k : Nat) (a b c d e f g : Value) : Prop := w.cell? ⟨k, 0, none⟩ = some a ∧ w.cell? ⟨k, 1, none⟩ = some b ∧ w.cell? ⟨k, 2, none⟩ = some c ∧ w.cell? ⟨k, 3, none⟩ = some d ∧ w.cell? ⟨k, 4, none⟩ = some e ∧ w.cell? ⟨k, 5, none⟩ = some f ∧ w.cell? ⟨k, 6, none⟩ = some g
theorem Box7.on {w w' : World} {k : Nat} {a b c d e f g : Value} (h : Box7 w k a b c d e f g) (hb : Below w.heap.size w w') : Box7 w' k a b c d e f g := by
 obtain ⟨h0, h1, h2, h3, h4, h5, h6⟩ := h
 exact ⟨cell_on h0 hb, cell_on h1 hb, cell_on h2 hb, cell_on h3 hb, cell_on h4 hb, cell_on h5 hb, cell_on h6 hb⟩
theorem many_le (k : Nat) : (askR k).many ≤ 1000000 := by
 match k with
 | 0 | 1 | 2 | 3 | 4 | 5 | 6 | 7 | 8 | 9 => exact of_decide_eq_true rfl
 | k + 10 => exact of_decide_eq_true (show decide (ask0.many ≤ 1000000) = true from rfl)
set_option maxHeartbeats 1600000 in
set_option maxRecDepth 1000000 in
theorem mayStand_any {w : World} {nd : Nd} {v : Value} {p : Nat} (ht : Tab w) (h : NodeIs w v nd) (hs : nd.x.size ≤ 1000000) :
  Calls Tryz.prog 92 #[v, .int .i64 (p : Int)] w fun e w' => e = .returned (.bool (mayB nd p)) ∧ Below w.heap.size w w' := by
 obtain ⟨vi, va, rfl, hi, hx⟩ := h
 obtain ⟨N, hN⟩ : ∃ N, w.heap.size = N := ⟨_, rfl⟩
 obtain ⟨W, hW⟩ : ∃ W, w.alloc (.cells #[.string nd.uid, .int .u8 (nd.kind : Int), vi, .int .u8 (nd.x.op : Int), .int .i64 nd.x.n, va, .int .i64 nd.n] 48) = W := ⟨_, rfl⟩
 have hwb : Below w.heap.size w W := by rw [← hW]; exact below_made _ _
 have bn : Box7 W N (.string nd.uid) (.int .u8 (nd.kind : Int)) vi (.int .u8 (nd.x.op : Int)) (.int .i64 nd.x.n) va (.int .i64 nd.n) := hN ▸ box7 hW
 have HBN := Lib.hid bn
 obtain ⟨n0, n1, n2, n3, n4, n5, n6⟩ := bn
 have HAS := Lib.hid (asked_at (ht.on hwb) (k := nd.kind))
 obtain ⟨uid, kind, ins, x, n⟩ := nd
 obtain ⟨a, ha⟩ : ∃ a, askR kind = a := ⟨_, rfl⟩
 have hml := many_le kind
 have HAS : Hid (Calls Tryz.prog 59 #[.int .u8 (kind : Int)] W fun e w' => e = .returned (.tuple #[askV a, .bool (kindOk kind)]) ∧ Below W.heap.size W w') := ha ▸ HAS
 have hml : a.many ≤ 1000000 := ha ▸ hml
 have HTI : Hid (∀ w', Below W.heap.size W w' → Calls Tryz.prog 129 #[askV a, vi, .int .i64 (p : Int)] w' fun e w'' => e = .returned (.bool (takesInB a ins p)) ∧ Below w'.heap.size w' w'') := Lib.hid (fun w' hb => takesIn_any a hml ((hi.on hwb).on hb))
 have HTX : Hid (∀ w', Below W.heap.size W w' → Calls Tryz.prog 130 #[askV a, exV x va] w' fun e w'' => e = .returned (.bool (takesXB a x)) ∧ Below w'.heap.size w' w'') := Lib.hid (fun w' hb => takesX_any a ((hx.under hwb).under hb) hs)
 have HNM : Hid (∀ w', Calls Tryz.prog 128 #[.string uid] w' fun e w'' => e = .returned (.bool (nameB uid)) ∧ Below w'.heap.size w' w'') := Lib.hid (fun w' => name_any uid w')
 obtain ⟨few, many, ty, acc, least, most, keeps⟩ := a
 obtain ⟨kb, hkb⟩ : ∃ b, kindOk kind = b := ⟨_, rfl⟩
 obtain ⟨nb, hnb⟩ : ∃ b, nameB uid = b := ⟨_, rfl⟩
 obtain ⟨ib, hib⟩ : ∃ b, takesInB ⟨few, many, ty, acc, least, most, keeps⟩ ins p = b := ⟨_, rfl⟩
 obtain ⟨xb, hxb⟩ : ∃ b, takesXB ⟨few, many, ty, acc, least, most, keeps⟩ x = b := ⟨_, rfl⟩
 have HR : Hid (mayB ⟨uid, kind, ins, x, n⟩ p = (kb && nb && ib && xb && decide (least ≤ n) && decide (n ≤ most))) := Lib.hid (by unfold mayB; rw [← hkb, ← hnb, ← hib, ← hxb, ← ha]; show _ = (_ && _ && _ && _ && decide ((⟨few, many, ty, acc, least, most, keeps⟩ : Ask).least ≤ n) && decide (n ≤ (⟨few, many, ty, acc, least, most, keeps⟩ : Ask).most)); rw [← ha])
 rw [HR.out]
 rw [hkb] at HAS
 rw [hnb] at HNM
 rw [hib] at HTI
 rw [hxb] at HTX
 have HB := Lib.hid hwb
 clear ht hi hx hs hwb hml ha hkb hnb hib hxb HR
 unfold nodeV
 unfold askV at *
 unfold exV at *
 have hor : (¬ least ≤ n) ∨ (least ≤ n ∧ ¬ n ≤ most) ∨ (least ≤ n ∧ n ≤ most) := by omega
 go_enter Tryz.func92, Tryz.ntmps92
 go_wp2_with fail
 refine HAS.out.mono ?_
 rintro e w1 ⟨rfl, hb1⟩
 have e0 := HBN.out.on (hb1.trans (below_made _ (.cells #[.int .i64 few, .int .i64 many, .int .u8 (ty : Int), .bool acc, .int .i64 least, .int .i64 most, .bool keeps] 124) |>.mono hb1.size))
 have a0 : Box7 (w1.alloc (.cells #[.int .i64 few, .int .i64 many, .int .u8 (ty : Int), .bool acc, .int .i64 least, .int .i64 most, .bool keeps] 124)) w1.heap.size (.int .i64 few) (.int .i64 many) (.int .u8 (ty : Int)) (.bool acc) (.int .i64 least) (.int .i64 most) (.bool keeps) := box7 rfl
 have HB1 := Lib.hid (hb1.trans (below_made _ (.cells #[.int .i64 few, .int .i64 many, .int .u8 (ty : Int), .bool acc, .int .i64 least, .int .i64 most, .bool keeps] 124) |>.mono hb1.size))
 have HE := Lib.hid e0
 have HA := Lib.hid a0
 obtain ⟨m0, m1, m2, m3, m4, m5, m6⟩ := e0
 obtain ⟨r0, r1, r2, r3, r4, r5, r6⟩ := a0
 clear hb1 n0 n1 n2 n3 n4 n5 n6
 cases kb with
 | false =>
  go_wp2_with fail
  go_ret
  exact ⟨ret_bool (by simp), by first | exact HB.out.trans (HB1.out.mono HB.out.size) | exact hN ▸ HB.out.trans (HB1.out.mono HB.out.size)⟩
 | true =>
 go_wp2_with fail
 obtain ⟨V, hV⟩ : ∃ V, w1.alloc (.cells #[.int .i64 few, .int .i64 many, .int .u8 (ty : Int), .bool acc, .int .i64 least, .int .i64 most, .bool keeps] 124) = V := ⟨_, rfl⟩
 obtain ⟨M, hM⟩ : ∃ M, w1.heap.size = M := ⟨_, rfl⟩
 rw [hV] at HB1 HE HA ⊢
 rw [hM] at HA ⊢
 clear hV hM m0 m1 m2 m3 m4 m5 m6 r0 r1 r2 r3 r4 r5 r6
 refine (HNM.out V).mono ?_
 rintro e w2 ⟨rfl, hb2⟩
 have HB2 := Lib.hid (HB1.out.trans (hb2.mono HB1.out.size))
 obtain ⟨m0, m1, m2, m3, m4, m5, m6⟩ := HE.out.on hb2
 obtain ⟨r0, r1, r2, r3, r4, r5, r6⟩ := HA.out.on hb2
 have HE2 := Lib.hid (HE.out.on hb2); have HA2 := Lib.hid (HA.out.on hb2)
 clear hb2
 cases nb with
 | false =>
  go_wp2_with fail
  go_ret
  exact ⟨ret_bool (by simp), by first | exact HB.out.trans (HB2.out.mono HB.out.size) | exact hN ▸ HB.out.trans (HB2.out.mono HB.out.size)⟩
 | true =>
 have HC := Lib.hid (HTI.out w2 HB2.out)
 go_wp2_with fail
 refine HC.out.mono ?_
 clear m0 m1 m2 m3 m4 m5 m6 r0 r1 r2 r3 r4 r5 r6
 rintro e w3 ⟨rfl, hb3⟩
 have HB3 := Lib.hid (HB2.out.trans (hb3.mono HB2.out.size))
 obtain ⟨m0, m1, m2, m3, m4, m5, m6⟩ := HE2.out.on hb3
 obtain ⟨r0, r1, r2, r3, r4, r5, r6⟩ := HA2.out.on hb3
 have HE3 := Lib.hid (HE2.out.on hb3); have HA3 := Lib.hid (HA2.out.on hb3)
 clear hb3
 cases ib with
 | false =>
  go_wp2_with fail
  go_ret
  exact ⟨ret_bool (by simp), by first | exact HB.out.trans (HB3.out.mono HB.out.size) | exact hN ▸ HB.out.trans (HB3.out.mono HB.out.size)⟩
 | true =>
 have HC3 := Lib.hid (HTX.out w3 HB3.out)
 go_wp2_with fail
 refine HC3.out.mono ?_
 clear m0 m1 m2 m3 m4 m5 m6 r0 r1 r2 r3 r4 r5 r6
 rintro e w4 ⟨rfl, hb4⟩
 have HB4 := Lib.hid (HB3.out.trans (hb4.mono HB3.out.size))
 obtain ⟨m0, m1, m2, m3, m4, m5, m6⟩ := HE3.out.on hb4
 obtain ⟨r0, r1, r2, r3, r4, r5, r6⟩ := HA3.out.on hb4
 have HZ := Lib.hid (HB.out.trans (HB4.out.mono HB.out.size))
 clear hb4
 cases xb with
 | false =>
  go_wp2_with fail
  go_ret
  exact ⟨ret_bool (by simp), by first | exact HZ.out | exact hN ▸ HZ.out⟩
 | true =>
 rcases hor with h1 | ⟨h1, h2⟩ | ⟨h1, h2⟩
 all_goals
  go_wp2_with fail
  go_ret
  exact ⟨ret_bool (by simp [h1]; try omega), by first | exact HZ.out | exact hN ▸ HZ.out⟩
end
section
open Go.RowKit nam exp
def Tests (K : FuncId) (cp : Array Value) (w : World) (l : List Nd) (f : Nd → Bool) : Prop :=
 ∀ i (h : i < l.length) (w' : World) (u : Value), NodeIs w' u l[i] → Below w.heap.size w w' → Calls Tryz.prog K (#[u] ++ cp) w' fun e w'' => e = .returned (.bool (f l[i])) ∧ Below w'.heap.size w' w''
set_option maxHeartbeats 1600000 in
set_option maxRecDepth 1000000 in
theorem first_node {w : World} {v : Value} {l : List Nd} {K : FuncId} {cp : Array Value} {f : Nd → Bool} (h : Nodes w v l) (hl : l.length ≤ 1000000) (hen : ∀ args w, (callFunc K args).run Tryz.prog w = .ok (.enter K args) w) (hK : Tests K cp w l f) :
  Calls Tryz.prog 96 #[v, .func (.func K) #[] cp] w fun e w' => e = .returned (.int .i64 (firstI f l 0)) ∧ Below w.heap.size w w' := by
 have HNS := Lib.hid h
 obtain ⟨a, c, rfl, _, h2⟩ := h
 have HC := Lib.hid h2; have HK := Lib.hid hK
 clear h2 hK
 obtain ⟨n, hn⟩ : ∃ n, l.length = n := ⟨_, rfl⟩
 have HN := Lib.hid hn
 rw [hn] at hl
 rw [hn]
 clear hn
 go_enter Tryz.func96, Tryz.ntmps96
 go_wp2_with fail
 go_loopg [9] n (fun g v9 wr => ∃ k : Nat, k + g = n ∧ v9 = .int .i64 k ∧ firstI f (l.drop k) k = firstI f l 0 ∧ Below w.heap.size w wr)
 case atStart => exact ⟨0, by omega, rfl, rfl, Below.refl _ _⟩
 case round =>
  obtain ⟨k, hk, rfl, hf, hb⟩ := hrel
  have HF := Lib.hid hf; have HB := Lib.hid hb; clear hf hb
  by_cases hkn : k < n
  · have hkl : k < l.length := by rw [HN.out]; exact hkn
    have hki : (k : Int) < (n : Int) := by omega
    obtain ⟨b, rfl, hat⟩ := HC.out (by omega)
    obtain ⟨hb0, vi, va, c0, c1, c2, c3, c4, c5, c6, hvi, hva⟩ := (hat k hkl).on HB.out
    have HD := Lib.hid (firstI_drop (f := f) (k := k) hkl)
    have HC1 := Lib.hid (HK.out k hkl)
    obtain ⟨nd, hx⟩ : ∃ x, l[k] = x := ⟨_, rfl⟩
    rw [hx] at c0 c1 c3 c4 c6 hvi hva HD HC1
    obtain ⟨ai, ci, hvie, _⟩ := id hvi
    obtain ⟨aa, ca, hvae, _⟩ := hva.form
    subst hvie
    subst hvae
    obtain ⟨r, hr⟩ : ∃ r, f nd = r := ⟨_, rfl⟩
    rw [hr] at HD HC1
    have HB1 := Lib.hid (HB.out.trans ((below_made wr (.cells #[.string nd.uid, .int .u8 (nd.kind : Int), .slice ai nd.ins.length ci, .int .u8 (nd.x.op : Int), .int .i64 nd.x.n, .slice aa nd.x.args.length ca, .int .i64 nd.n] 48)).mono HB.out.size))
    have HC2 := Lib.hid (HC1.out _ (nodeV nd _ _) ⟨_, _, rfl, hvi.on (below_made wr (.cells #[.string nd.uid, .int .u8 (nd.kind : Int), .slice ai nd.ins.length ci, .int .u8 (nd.x.op : Int), .int .i64 nd.x.n, .slice aa nd.x.args.length ca, .int .i64 nd.n] 48)), hva.under (below_made wr (.cells #[.string nd.uid, .int .u8 (nd.kind : Int), .slice ai nd.ins.length ci, .int .u8 (nd.x.op : Int), .int .i64 nd.x.n, .slice aa nd.x.args.length ca, .int .i64 nd.n] 48))⟩ HB1.out)
    obtain ⟨d0, d1, d2, d3, d4, d5, d6⟩ := @box7 wr _ (.string nd.uid) (.int .u8 (nd.kind : Int)) (.slice ai nd.ins.length ci) (.int .u8 (nd.x.op : Int)) (.int .i64 nd.x.n) (.slice aa nd.x.args.length ca) (.int .i64 nd.n) 48 rfl
    unfold nodeV at HC2
    clear hx hkl hkn hr hb0 hvi hva hat HC1
    cases r with
    | true =>
     have HE : Hid (Ending.returned (.int .i64 (k : Int)) = .returned (.int .i64 (firstI f l 0))) := Lib.hid (by rw [← HF.out, HD.out]; simp)
     go_wp2_with fail
     refine HC2.out.mono ?_
     rintro e w1 ⟨rfl, hb1⟩
     have HX := Lib.hid (HB1.out.trans (hb1.mono HB1.out.size)); clear hb1 d0 d1 d2 d3 d4 d5 d6 c0 c1 c2 c3 c4 c5 c6
     go_wp2_with fail
     try rw [Exit.noGoto_ret]
     go_ret
     exact ⟨HE.out, HX.out⟩
    | false =>
     have HE : Hid (firstI f (l.drop (k + 1)) (k + 1) = firstI f l 0) := Lib.hid (by rw [← HF.out, HD.out]; simp)
     go_wp2_with fail
     refine HC2.out.mono ?_
     rintro e w1 ⟨rfl, hb1⟩
     have HX := Lib.hid (HB1.out.trans (hb1.mono HB1.out.size)); clear hb1 d0 d1 d2 d3 d4 d5 d6 c0 c1 c2 c3 c4 c5 c6
     go_wp2_with fail
     go_roundg (gk - 1)
     case rel => exact ⟨k + 1, by omega, by go_num, HE.out, HX.out⟩
     case measure => omega
  · have hki : ¬ (k : Int) < (n : Int) := by omega
    have HE : Hid (Ending.returned (.int .i64 (-1)) = .returned (.int .i64 (firstI f l 0))) := Lib.hid (by rw [← HF.out, List.drop_eq_nil_of_le (by rw [HN.out]; omega)]; rfl)
    clear hkn
    go_wp2_with fail
    try rw [Exit.noGoto_ret]
    go_ret
    exact ⟨HE.out, HB.out⟩
set_option maxHeartbeats 1600000 in
set_option maxRecDepth 1000000 in
theorem places_node {w : World} {v : Value} {l : List Nd} {K : FuncId} {cp : Array Value} {f : Nd → Bool} (h : Nodes w v l) (hl : l.length ≤ 1000000) (hen : ∀ args w, (callFunc K args).run Tryz.prog w = .ok (.enter K args) w) (hK : Tests K cp w l f) :
  Calls Tryz.prog 132 #[v, .func (.func K) #[] cp] w (PlPost (placesI f l 0) w) := by
 obtain ⟨i0, hi, hz0, hz1, hz2⟩ := info_parts info3
 obtain ⟨a, c, rfl, _, h2⟩ := h
 have HC := Lib.hid h2; have HK := Lib.hid hK
 clear h2 hK
 obtain ⟨n, hn⟩ : ∃ n, l.length = n := ⟨_, rfl⟩
 have HN := Lib.hid hn
 rw [hn] at hl
 rw [hn]
 clear hn
 go_enter Tryz.func132, Tryz.ntmps132
 go_wp2_with fail
 go_loopg [5, 10] n (fun g v5 v10 wr => ∃ (k : Nat) (done : List Int), k + g = n ∧ v10 = .int .i64 k ∧ done.length ≤ k ∧ done ++ placesI f (l.drop k) k = placesI f l 0 ∧ wr.ownsRow w.heap.size 3 1 v5 done.length (done.map intV) ∧ Below w.heap.size w wr)
 case atStart => exact ⟨0, [], by omega, rfl, by simp, rfl, World.ownsRow_nil _ _ _ _, Below.refl _ _⟩
 case round =>
  obtain ⟨k, done, hk, rfl, hdk, hf, hr, hb⟩ := hrel
  have HF := Lib.hid hf; have HB := Lib.hid hb; have HR := Lib.hid hr; clear hf hb hr
  by_cases hkn : k < n
  · have hkl : k < l.length := by rw [HN.out]; exact hkn
    have hki : (k : Int) < (n : Int) := by omega
    obtain ⟨b, rfl, hat⟩ := HC.out (by omega)
    obtain ⟨hb0, vi, va, c0, c1, c2, c3, c4, c5, c6, hvi, hva⟩ := (hat k hkl).on HB.out
    have HD := Lib.hid (placesI_drop (f := f) (k := k) hkl)
    have HC1 := Lib.hid (HK.out k hkl)
    obtain ⟨nd, hx⟩ : ∃ x, l[k] = x := ⟨_, rfl⟩
    rw [hx] at c0 c1 c3 c4 c6 hvi hva HD HC1
    obtain ⟨ai, ci, hvie, _⟩ := id hvi
    obtain ⟨aa, ca, hvae, _⟩ := hva.form
    subst hvie
    subst hvae
    obtain ⟨r, hr⟩ : ∃ r, f nd = r := ⟨_, rfl⟩
    rw [hr] at HD HC1
    have HBM : Hid (Below wr.heap.size wr (wr.alloc (.cells #[.string nd.uid, .int .u8 (nd.kind : Int), .slice ai nd.ins.length ci, .int .u8 (nd.x.op : Int), .int .i64 nd.x.n, .slice aa nd.x.args.length ca, .int .i64 nd.n] 48))) := Lib.hid (below_made wr _)
    have HB1 := Lib.hid (HB.out.trans (HBM.out.mono HB.out.size))
    have HC2 := Lib.hid (HC1.out _ (nodeV nd _ _) ⟨_, _, rfl, hvi.on HBM.out, hva.under HBM.out⟩ HB1.out)
    obtain ⟨d0, d1, d2, d3, d4, d5, d6⟩ := @box7 wr _ (.string nd.uid) (.int .u8 (nd.kind : Int)) (.slice ai nd.ins.length ci) (.int .u8 (nd.x.op : Int)) (.int .i64 nd.x.n) (.slice aa nd.x.args.length ca) (.int .i64 nd.n) 48 rfl
    unfold nodeV at HC2
    clear hx hkl hr hb0 hvi hva hat HC1
    cases r with
    | true =>
     have HE : Hid ((done ++ [(k : Int)]) ++ placesI f (l.drop (k + 1)) (k + 1) = placesI f l 0) := Lib.hid (by rw [← HF.out, HD.out]; simp)
     go_wp2_with fail
     refine HC2.out.mono ?_
     rintro e w1 ⟨rfl, hb1⟩
     have HBW := Lib.hid (below_on' HBM.out hb1)
     have HO := Lib.hid (own_below' HR.out HBW.out)
     have HSZ : Hid (∀ o, w.heap.size ≤ (w1.alloc o).heap.size) := Lib.hid (fun o => by rw [World.size_alloc]; have := HB.out.size; have := HBW.out.size; omega)
     clear hb1 d0 d1 d2 d3 d4 d5 d6 c0 c1 c2 c3 c4 c5 c6
     go_wp2_with (at_builtin; refine wpList_append_own _ rfl (.tmp 18) (.tmp 20) 43 rfl w.heap.size 3 i0 (.int .i64 0) 1 8 Tryz.underlying43 hi hz0 hz1 hz2 rfl (by decide) _ _ _ rfl (HO.out.alloc _) ⟨_, 0, none⟩ 1 1 [.int .i64 (k : Int)] rfl rfl (cell_one_new _ _ _) (by simp [Value.oneCell']) (by unfold maxLen; omega) (by omega) (HSZ.out _) ?_)
     intro v' w2 k4 g4 _
     have HM := Lib.hid (places_more HB.out HR.out HBW.out k4 g4)
     clear k4 g4
     go_wp2
     go_roundg (gk - 1)
     case rel => exact ⟨k + 1, _, by omega, by go_num, by simp; omega, HE.out, HM.out.1, HM.out.2⟩
     case measure => omega
    | false =>
     have HE : Hid (done ++ placesI f (l.drop (k + 1)) (k + 1) = placesI f l 0) := Lib.hid (by rw [← HF.out, HD.out]; simp)
     go_wp2_with fail
     refine HC2.out.mono ?_
     rintro e w1 ⟨rfl, hb1⟩
     have HX := Lib.hid (And.intro (own_below' HR.out (below_on' HBM.out hb1)) (HB1.out.trans (hb1.mono HB1.out.size))); clear hb1 d0 d1 d2 d3 d4 d5 d6 c0 c1 c2 c3 c4 c5 c6
     go_wp2_with fail
     go_roundg (gk - 1)
     case rel => exact ⟨k + 1, done, by omega, by go_num, by omega, HE.out, HX.out.1, HX.out.2⟩
     case measure => omega
  · have hki : ¬ (k : Int) < (n : Int) := by omega
    have HE : Hid (done = placesI f l 0) := Lib.hid (drop_len HF.out (by rw [HN.out]; omega))
    clear hkn
    go_wp2_with fail
    try rw [Exit.noGoto_ret]
    go_ret
    exact ⟨_, rfl, by rw [← HE.out]; exact HR.out, HB.out⟩
end
section
open Go.RowKit nam exp
theorem toList_iff {a b : ByteArray} : a.toList = b.toList ↔ a = b := by
 constructor
 · intro h
   rw [ByteArray.toList_eq, ByteArray.toList_eq] at h
   exact ByteArray.ext (by have := congrArg List.toArray h; simpa using this)
 · intro h; rw [h]
theorem own_lower {w : World} {base base' : Nat} {e : TypeId} {size : Nat} {v : Value} {n : Nat} {xs : List Value} (h : w.ownsRow base e size v n xs) (hb : base' ≤ base) : w.ownsRow base' e size v n xs := by
 obtain ⟨h1, h2 | ⟨g, cap, cur, a1, a2, a3⟩⟩ := h
 · exact ⟨h1, .inl h2⟩
 · exact ⟨h1, .inr ⟨g, cap, cur, a1, by omega, a3⟩⟩
theorem nd_box {w : World} {nd : Nd} {vi va : Value} : Box7 (w.alloc (.cells #[.string nd.uid, .int .u8 (nd.kind : Int), vi, .int .u8 (nd.x.op : Int), .int .i64 nd.x.n, va, .int .i64 nd.n] 48)) w.heap.size (.string nd.uid) (.int .u8 (nd.kind : Int)) vi (.int .u8 (nd.x.op : Int)) (.int .i64 nd.x.n) va (.int .i64 nd.n) := box7 rfl
theorem named_at {w : World} {u : Value} {nd : Nd} {b : Nat} {uid : ByteArray} (c : w.cell? ⟨b, 0, none⟩ = some (.string uid)) (h : NodeIs w u nd) :
  Calls Tryz.prog 97 #[u, .pointer (some ⟨b, 0, none⟩)] w fun e w' => e = .returned (.bool (named uid nd)) ∧ Below w.heap.size w w' := by
 obtain ⟨vi, va, rfl, _, _⟩ := h
 obtain ⟨d0, d1, d2, d3, d4, d5, d6⟩ := @nd_box w nd vi va
 have c1 := cell_on c (below_made w (.cells #[.string nd.uid, .int .u8 (nd.kind : Int), vi, .int .u8 (nd.x.op : Int), .int .i64 nd.x.n, va, .int .i64 nd.n] 48))
 have HB : Hid (∀ o, Below w.heap.size w (w.alloc o)) := Lib.hid (fun o => below_made w o)
 unfold nodeV
 go_enter Tryz.func97, Tryz.ntmps97
 go_wp2_with fail
 go_ret
 exact ⟨ret_bool (by unfold named; rw [Bool.eq_iff_iff]; simp [toList_iff]), HB.out _⟩
theorem reads_at {w : World} {u : Value} {nd : Nd} {b : Nat} {p : Int} (c : w.cell? ⟨b, 0, none⟩ = some (.int .i64 p)) (h : NodeIs w u nd) (hl : nd.ins.length ≤ 1000000) :
  Calls Tryz.prog 176 #[u, .pointer (some ⟨b, 0, none⟩)] w fun e w' => e = .returned (.bool (reads p nd)) ∧ Below w.heap.size w w' := by
 obtain ⟨vi, va, rfl, hi, _⟩ := h
 obtain ⟨d0, d1, d2, d3, d4, d5, d6⟩ := @nd_box w nd vi va
 have c1 := cell_on c (below_made w (.cells #[.string nd.uid, .int .u8 (nd.kind : Int), vi, .int .u8 (nd.x.op : Int), .int .i64 nd.x.n, va, .int .i64 nd.n] 48))
 have HB : Hid (∀ o, Below w.heap.size w (w.alloc o)) := Lib.hid (fun o => below_made w o)
 have HC : Hid (∀ o, Calls Tryz.prog 177 #[vi, .int .i64 p] (w.alloc o) fun e w' => e = .returned (.bool (decide (p ∈ nd.ins))) ∧ w' = w.alloc o) := Lib.hid (fun o => contains_any (hi.on (below_made w o)) hl p)
 have HR : Hid (reads p nd = decide (p ∈ nd.ins)) := Lib.hid rfl
 rw [HR.out]
 clear hi hl
 unfold nodeV
 go_enter Tryz.func176, Tryz.ntmps176
 go_wp2_with fail
 refine (HC.out _).mono ?_
 rintro e w1 ⟨rfl, rfl⟩
 go_wp2_with fail
 go_ret
 exact ⟨rfl, HB.out _⟩
theorem flat_at {w : World} {u : Value} {nd : Nd} (h : NodeIs w u nd) :
  Calls Tryz.prog 133 #[u] w fun e w' => e = .returned (.bool (flat nd)) ∧ Below w.heap.size w w' := by
 obtain ⟨vi, va, rfl, hi, _⟩ := h
 obtain ⟨d0, d1, d2, d3, d4, d5, d6⟩ := @nd_box w nd vi va
 have HB : Hid (∀ o, Below w.heap.size w (w.alloc o)) := Lib.hid (fun o => below_made w o)
 unfold nodeV
 go_enter Tryz.func133, Tryz.ntmps133
 go_wp2_with fail
 go_ret
 exact ⟨ret_bool (by unfold flat; rw [Bool.eq_iff_iff]; simp; omega), HB.out _⟩
theorem named_any {w : World} {v : Value} {l : List Nd} (uid : ByteArray) (h : Nodes w v l) (hl : l.length ≤ 1000000) :
  Calls Tryz.prog 58 #[v, .string uid] w fun e w' => e = .returned (.int .i64 (findI l uid)) ∧ Below w.heap.size w w' := by
 obtain ⟨W, hW⟩ : ∃ W, w.alloc (.cells #[.string uid] 9) = W := ⟨_, rfl⟩
 have hwb : Below w.heap.size w W := by rw [← hW]; exact below_made _ _
 have c := box1 hW
 have HF := Lib.hid (first_node (f := named uid) (h.on hwb) hl (enters_of Tryz.func97 (by kernel_rfl) rfl) (cp := #[.pointer (some ⟨w.heap.size, 0, none⟩)]) (fun i hi w' u hu hb => named_at (cell_on c hb) hu))
 have HR : Hid (findI l uid = firstI (named uid) l 0) := Lib.hid rfl
 have HB := Lib.hid hwb
 rw [HR.out]
 clear h hwb
 go_enter Tryz.func58, Tryz.ntmps58
 go_wp2_with fail
 refine HF.out.mono ?_
 rintro e w1 ⟨rfl, hb1⟩
 have HX := Lib.hid (HB.out.trans (hb1.mono HB.out.size)); clear hb1
 go_wp2_with fail
 go_ret
 exact ⟨rfl, HX.out⟩
theorem PlPost.back {l : List Int} {w W : World} (hb : Below w.heap.size w W) {e : Ending} {w' : World} (h : PlPost l W e w') : PlPost l w e w' := by
 obtain ⟨v, h1, h2, h3⟩ := h
 exact ⟨v, h1, own_lower h2 hb.size, hb.trans (h3.mono hb.size)⟩
theorem readers_any {w : World} {v : Value} {l : List Nd} (p : Int) (h : Nodes w v l) (hl : l.length ≤ 1000000) (hi : ∀ nd ∈ l, nd.ins.length ≤ 1000000) :
  Calls Tryz.prog 131 #[v, .int .i64 p] w (PlPost (readersI l p) w) := by
 obtain ⟨W, hW⟩ : ∃ W, w.alloc (.cells #[.int .i64 p] 3) = W := ⟨_, rfl⟩
 have hwb : Below w.heap.size w W := by rw [← hW]; exact below_made _ _
 have c := box1 hW
 have HF := Lib.hid (places_node (f := reads p) (h.on hwb) hl (enters_of Tryz.func176 (by kernel_rfl) rfl) (cp := #[.pointer (some ⟨w.heap.size, 0, none⟩)]) (fun i h' w' u hu hb => reads_at (cell_on c hb) hu (hi _ (List.getElem_mem h'))))
 have HB := Lib.hid hwb
 clear h hwb hi
 go_enter Tryz.func131, Tryz.ntmps131
 go_wp2_with fail
 refine HF.out.mono ?_
 rintro e w1 hp
 obtain ⟨u, rfl, h2, h3⟩ := PlPost.back HB.out hp
 have HX : Hid (PlPost (readersI l p) w (.returned u) w1) := Lib.hid ⟨u, rfl, h2, h3⟩
 clear hp h2 h3
 go_wp2_with fail
 go_ret
 exact HX.out
theorem flats_any {w : World} {v : Value} {l : List Nd} (h : Nodes w v l) (hl : l.length ≤ 1000000) :
  Calls Tryz.prog 95 #[v] w fun e w' => e = .returned (.int .i64 (flatsN l : Int)) ∧ Below w.heap.size w w' := by
 have HF := Lib.hid (places_node (f := flat) h hl (enters_of Tryz.func133 (by kernel_rfl) rfl) (cp := #[]) (fun i h' w' u hu hb => flat_at hu))
 have HR : Hid ((placesI flat l 0).length = flatsN l) := Lib.hid placesI_len
 clear h hl
 go_enter Tryz.func95, Tryz.ntmps95
 go_wp2_with fail
 refine HF.out.mono ?_
 rintro e w1 ⟨u, rfl, h2, h3⟩
 rw [HR.out] at h2
 obtain ⟨a, cap, rfl, _, _⟩ := own_slice h2
 have HX := Lib.hid h3; clear h2 h3
 go_wp2_with fail
 go_ret
 exact ⟨rfl, HX.out⟩
end
section
open Go.RowKit nam exp
def leaveL : List Ex → Int → Int
 | [], r => r
 | x :: l, r => if r < 0 then r else leaveL l (leave x.size r)
theorem leaveL_neg {l : List Ex} {r : Int} (h : r < 0) : leaveL l r = r := by
 cases l with
 | nil => rfl
 | cons x l => rw [leaveL, if_pos h]
theorem leaveL_eq : ∀ {l : List Ex} {r : Int}, 0 ≤ r → leaveL l r = max (-1) (r - sizes l)
 | [], r, h => by rw [leaveL, sizes_nil]; omega
 | x :: l, r, h => by
  rw [leaveL, if_neg (by omega), sizes_cons]
  have hx := size_pos x
  by_cases h1 : leave x.size r < 0
  · rw [leaveL_neg h1]
    unfold leave at h1 ⊢
    rw [if_neg (by omega)] at h1 ⊢
    push_cast
    omega
  · rw [leaveL_eq (by omega)]
    unfold leave at h1 ⊢
    rw [if_neg (by omega)] at h1 ⊢
    push_cast
    omega
theorem leave_parts (l : List Ex) (r : Int) : leave (1 + sizes l) r = leaveL l (r - 1) := by
 unfold leave
 by_cases h : r < 0
 · rw [if_pos h, leaveL_neg (by omega)]
 · rw [if_neg h]
   by_cases h0 : r = 0
   · subst h0
     rw [leaveL_neg (by omega)]
     push_cast
     omega
   · rw [leaveL_eq (by omega)]
     push_cast
     omega
theorem leave_less {s : Nat} {r : Int} (hs : 1 ≤ s) (hr : 0 ≤ r) : -1 ≤ leave s r ∧ leave s r ≤ r - 1 := by
 unfold leave
 rw [if_neg (by omega)]
 omega
theorem leaveL_drop {l : List Ex} {k : Nat} {r : Int} (h : k < l.length) (hr : 0 ≤ r) : leaveL (l.drop k) r = leaveL (l.drop (k + 1)) (leave l[k].size r) := by
 rw [List.drop_eq_getElem_cons h, leaveL, if_neg (by omega)]
set_option maxHeartbeats 1600000 in
set_option maxRecDepth 1000000 in
theorem left_at : ∀ (s : Nat) (l : List Ex), sizes l ≤ s → ∀ (w : World) (b o : Nat) (v : Value) (r : Int), w.cell? ⟨b, o + 2, none⟩ = some v → Lies w Any v l → -100 ≤ r → r ≤ 1000 →
  Calls Tryz.prog 91 #[.pointer (some ⟨b, o, none⟩), .int .i64 r] w fun e w' => e = .returned (.int .i64 (leave (1 + sizes l) r)) ∧ w' = w := by
 intro s
 induction s with
 | zero =>
  intro l hl w b o v r hc hv h1 h2
  obtain rfl : l = [] := List.eq_nil_of_length_eq_zero (by have := sizes_len l; omega)
  rw [leave_parts]
  obtain ⟨a, c, rfl, _⟩ := hv.form
  clear hv
  have hn : ¬ ((0 : Int) < ((([] : List Ex).length : Nat) : Int)) := by simp
  go_enter Tryz.func91, Tryz.ntmps91
  go_wp2_with fail
  go_loopg [1, 5] 0 (fun g v1 v5 wr => v1 = .int .i64 (r - 1) ∧ v5 = .int .i64 0 ∧ wr = w)
  case atStart => exact ⟨by go_num, rfl, rfl⟩
  case round =>
   obtain ⟨rfl, rfl, rfl⟩ := hrel
   go_wp2_with fail
   try rw [Exit.noGoto_ret]
   go_ret
   exact ⟨by rw [leaveL]; rfl, rfl⟩
 | succ s ih =>
  intro l hl w b o v r hc hv h1 h2
  rw [leave_parts]
  have HIH : Hid (∀ (k : Nat) (hk : k < l.length) (b' : Nat) (r' : Int), At w Any b' (k * 3) l[k] → 0 ≤ r' → r' ≤ 1000 → Calls Tryz.prog 91 #[.pointer (some ⟨b', k * 3, none⟩), .int .i64 r'] w fun e w' => e = .returned (.int .i64 (leave l[k].size r')) ∧ w' = w) := Lib.hid (fun k hk b' r' hat g1 g2 => by
   obtain ⟨a', c', _, _, k3, k4, _⟩ := hat.cells
   have hsz := sizes_mem (List.getElem_mem hk)
   have hse := size_eq l[k]
   have := ih l[k].args (by omega) w b' (k * 3) _ r' k3 k4 (by omega) g2
   rw [← hse] at this
   exact this)
  obtain ⟨a, c, rfl, hat⟩ := hv.form
  have HAT := Lib.hid hat
  have HSZ : Hid (∀ y : Ex, 1 ≤ y.size) := Lib.hid size_pos
  clear hv hat ih hl
  obtain ⟨n, hn⟩ : ∃ n, l.length = n := ⟨_, rfl⟩
  have HN := Lib.hid hn
  rw [hn] at hc
  clear hn
  go_enter Tryz.func91, Tryz.ntmps91
  go_wp2_with fail
  go_loopg [1, 5] n (fun g v1 v5 wr => ∃ (k : Nat) (q : Int), k + g = n ∧ v5 = .int .i64 k ∧ v1 = .int .i64 q ∧ leaveL (l.drop k) q = leaveL l (r - 1) ∧ -101 ≤ q ∧ (k : Int) + q ≤ 999 ∧ (0 ≤ q ∨ k ≤ 1000) ∧ wr = w)
  case atStart => exact ⟨0, r - 1, by omega, rfl, by go_num, rfl, by omega, by omega, by omega, rfl⟩
  case round =>
   obtain ⟨k, q, hk, rfl, rfl, hf, hq1, hq2, hq3, rfl⟩ := hrel
   have HF := Lib.hid hf; clear hf
   by_cases hkn : k < n
   · have hkl : k < l.length := by rw [HN.out]; exact hkn
     have hki : (k : Int) < (n : Int) := by omega
     by_cases hq0 : 0 ≤ q
     · obtain ⟨b1, rfl, hat⟩ := HAT.out (by omega)
       have HC := Lib.hid (HIH.out k hkl b1 q (hat k hkl) hq0 (by omega))
       have HD := Lib.hid (leaveL_drop hkl hq0)
       have hls := leave_less (HSZ.out l[k]) hq0
       obtain ⟨q', hq'⟩ : ∃ q', leave l[k].size q = q' := ⟨_, rfl⟩
       rw [hq'] at HC HD hls
       clear hkl hat hq'
       obtain ⟨g1, g2⟩ := hls
       go_wp2_with fail
       refine HC.out.mono ?_
       rintro e w1 ⟨rfl, rfl⟩
       go_wp2_with fail
       go_roundg (gk - 1)
       case rel => exact ⟨k + 1, q', by omega, by go_num, rfl, by rw [← HD.out]; exact HF.out, by omega, by push_cast; omega, by omega, rfl⟩
       case measure => omega
     · have HE : Hid (Ending.returned (.int .i64 q) = .returned (.int .i64 (leaveL l (r - 1)))) := Lib.hid (by rw [← HF.out, leaveL_neg (by omega)])
       have hq0' : q < 0 := by omega
       clear hkl
       go_wp2_with fail
       try rw [Exit.noGoto_ret]
       go_ret
       exact ⟨HE.out, rfl⟩
   · have hki : ¬ (k : Int) < (n : Int) := by omega
     have HE : Hid (Ending.returned (.int .i64 q) = .returned (.int .i64 (leaveL l (r - 1)))) := Lib.hid (by rw [← HF.out, List.drop_eq_nil_of_le (by rw [HN.out]; omega)]; rfl)
     clear hkn
     go_wp2_with fail
     try rw [Exit.noGoto_ret]
     go_ret
     exact ⟨HE.out, rfl⟩
end
section
open Go.RowKit nam exp
theorem box2 {w W : World} {a b : Value} {t : TypeId} (hW : w.alloc (.cells #[a, b] t) = W) : W.cell? ⟨w.heap.size, 0, none⟩ = some a ∧ W.cell? ⟨w.heap.size, 1, none⟩ = some b := by
 subst hW
 have h := heap_last (w := w) (o := .cells #[a, b] t) rfl
 exact ⟨cell_of h rfl, cell_of h rfl⟩
theorem room_drop {l : List Nd} {k : Nat} {q : Int} (h : k < l.length) : roomN (l.drop k) q = roomN (l.drop (k + 1)) (leave l[k].x.size q) := by
 rw [List.drop_eq_getElem_cons h]; rfl
set_option maxHeartbeats 1600000 in
set_option maxRecDepth 1000000 in
theorem bounded_any {w : World} {v : Value} {l : List Nd} (par : Int) (h : Nodes w v l) :
  Calls Tryz.prog 54 #[.agg #[.int .i64 par, v]] w fun e w' => e = .returned (.bool (boundedB par l)) ∧ Below w.heap.size w w' := by
 obtain ⟨W, hW⟩ : ∃ W, w.alloc (.cells #[.int .i64 par, v] 28) = W := ⟨_, rfl⟩
 have hwb : Below w.heap.size w W := by rw [← hW]; exact below_made _ _
 obtain ⟨c0, c1⟩ := box2 hW
 have HNS := Lib.hid (h.on hwb)
 have HB := Lib.hid hwb
 obtain ⟨a, c, rfl, -, -⟩ := id h
 obtain ⟨n, hn⟩ : ∃ n, l.length = n := ⟨_, rfl⟩
 have HN := Lib.hid hn
 have HR : Hid (boundedB par l = (decide (1 ≤ par ∧ par ≤ 4 ∧ 2 ≤ n ∧ n ≤ 12) && decide (0 ≤ roomN l 1000))) := Lib.hid (by unfold boundedB; rw [hn])
 rw [HR.out]
 clear HR
 rw [hn] at c1 HNS hW ⊢
 clear h hn hwb
 have hor : par < 1 ∨ (¬ par < 1 ∧ 4 < par) ∨ (¬ par < 1 ∧ ¬ 4 < par ∧ (n : Int) < 2) ∨ (¬ par < 1 ∧ ¬ 4 < par ∧ ¬ (n : Int) < 2 ∧ 12 < (n : Int)) ∨ (¬ par < 1 ∧ ¬ 4 < par ∧ ¬ (n : Int) < 2 ∧ ¬ 12 < (n : Int)) := by omega
 rcases hor with h1 | ⟨h1, h2⟩ | ⟨h1, h2, h3⟩ | ⟨h1, h2, h3, h4⟩ | ⟨h1, h2, h3, h4⟩
 · rw [decide_eq_false (by omega), Bool.false_and]
   go_enter Tryz.func54, Tryz.ntmps54
   go_wp2_with fail
   go_ret
   exact ⟨rfl, HB.out⟩
 · rw [decide_eq_false (by omega), Bool.false_and]
   go_enter Tryz.func54, Tryz.ntmps54
   go_wp2_with fail
   go_ret
   exact ⟨rfl, HB.out⟩
 · rw [decide_eq_false (by omega), Bool.false_and]
   go_enter Tryz.func54, Tryz.ntmps54
   go_wp2_with fail
   go_ret
   exact ⟨rfl, HB.out⟩
 · rw [decide_eq_false (by omega), Bool.false_and]
   go_enter Tryz.func54, Tryz.ntmps54
   go_wp2_with fail
   go_ret
   exact ⟨rfl, HB.out⟩
 · rw [decide_eq_true (by omega), Bool.true_and]
   go_enter Tryz.func54, Tryz.ntmps54
   go_wp2_with fail
   go_loopg [3, 28] n (fun g v3 v28 wr => ∃ (k : Nat) (q : Int), k + g = n ∧ v28 = .int .i64 k ∧ v3 = .int .i64 q ∧ roomN (l.drop k) q = roomN l 1000 ∧ -(k : Int) ≤ q ∧ q ≤ 1000 ∧ wr = W)
   case atStart => exact ⟨0, 1000, by omega, rfl, by go_num, rfl, by omega, by omega, rfl⟩
   case round =>
    obtain ⟨k, q, hk, rfl, rfl, hf, hq1, hq2, rfl⟩ := hrel
    have HF := Lib.hid hf; clear hf
    by_cases hkn : k < n
    · have hkl : k < l.length := by rw [HN.out]; exact hkn
      have hki : (k : Int) < (n : Int) := by omega
      obtain ⟨a', c', hac, -, hat⟩ := HNS.out
      obtain ⟨rfl, rfl⟩ : a = a' ∧ c = c' := by simp at hac; exact ⟨hac.1, hac.2.2⟩
      obtain ⟨b1, rfl, hat2⟩ := hat (by omega)
      obtain ⟨-, vi, va, -, -, -, -, -, k5, -, -, hva⟩ := hat2 k hkl
      have HC := Lib.hid (left_at _ _ (Nat.le_refl _) wr b1 (k * 7 + 3) va q k5 hva (by omega) hq2)
      rw [← size_eq] at HC
      have HD := Lib.hid (room_drop (q := q) hkl)
      have hls := leave_bound (s := l[k].x.size) (m := (k : Int)) hq1 (by omega) hq2
      obtain ⟨q', hq'⟩ : ∃ q', leave l[k].x.size q = q' := ⟨_, rfl⟩
      rw [hq'] at HC HD hls
      obtain ⟨g1, g2⟩ := hls
      clear hkl hat hat2 hq' hac k5 hva
      go_wp2_with fail
      refine HC.out.mono ?_
      rintro e w1 ⟨rfl, rfl⟩
      go_wp2_with fail
      go_roundg (gk - 1)
      case rel => exact ⟨k + 1, q', by omega, by go_num, rfl, by rw [← HD.out]; exact HF.out, by push_cast; omega, by omega, rfl⟩
      case measure => omega
    · have hki : ¬ (k : Int) < (n : Int) := by omega
      have HE : Hid (q = roomN l 1000) := Lib.hid (by rw [← HF.out, List.drop_eq_nil_of_le (by rw [HN.out]; omega)]; rfl)
      clear hkn
      go_wp2_with fail
      try rw [Exit.noGoto_ret]
      go_ret
      exact ⟨ret_bool (by rw [← HE.out]), HB.out⟩
end
section
open Go.RowKit nam exp
theorem errAt_eq {l : List Nd} {k : Nat} (h : k < l.length) : errAt l k = if mayB l[k] k = false then 120 else if 0 ≤ findI (l.take k) l[k].uid then 121 else 0 := by
 unfold errAt; rw [List.getElem?_eq_getElem h]
set_option maxHeartbeats 3200000 in
set_option maxRecDepth 1000000 in
theorem alone_any {w : World} {v : Value} {l : List Nd} (ht : Tab w) (h : Nodes w v l) (hl : l.length ≤ 1000000) (hs : ∀ nd ∈ l, nd.x.size ≤ 1000000) :
  Calls Tryz.prog 55 #[v] w fun e w' => e = .returned (.tuple #[.int .i64 (aloneO l).1, .int .i64 (aloneO l).2]) ∧ Below w.heap.size w w' := by
 have HNS := Lib.hid h; have HT := Lib.hid ht; have HS := Lib.hid hs
 obtain ⟨a, c, rfl, hlc, h2⟩ := h
 have HC := Lib.hid h2
 clear h2 ht hs
 obtain ⟨n, hn⟩ : ∃ n, l.length = n := ⟨_, rfl⟩
 have HN := Lib.hid hn
 rw [hn] at hl hlc HNS
 rw [hn]
 have HA : Hid (aloneO l = firstErr (errAt l) n 0) := Lib.hid (by unfold aloneO; rw [hn])
 clear hn
 go_enter Tryz.func55, Tryz.ntmps55
 go_wp2_with fail
 go_loopg [8] n (fun g v8 wr => ∃ k : Nat, k + g = n ∧ v8 = .int .i64 k ∧ firstErr (errAt l) g k = aloneO l ∧ Below w.heap.size w wr)
 case atStart => exact ⟨0, by omega, rfl, HA.out.symm, Below.refl _ _⟩
 case round =>
  obtain ⟨k, hk, rfl, hf, hb⟩ := hrel
  have HF := Lib.hid hf; have HB := Lib.hid hb; clear hf hb
  by_cases hkn : k < n
  · obtain ⟨g, rfl⟩ : ∃ g, gk = g + 1 := ⟨gk - 1, by omega⟩
    have hkl : k < l.length := by rw [HN.out]; exact hkn
    have hki : (k : Int) < (n : Int) := by omega
    have hkc : (k : Int) ≤ (c : Int) := by omega
    obtain ⟨b, rfl, hat⟩ := HC.out (by omega)
    obtain ⟨-, vi, va, c0, c1, c2, c3, c4, c5, c6, hvi, hva⟩ := (hat k hkl).on HB.out
    have HE := Lib.hid (errAt_eq hkl)
    have HSX := Lib.hid (HS.out l[k] (List.getElem_mem hkl))
    have HTK := Lib.hid ((HNS.out.on HB.out).take (k := k) (by rw [HN.out]; omega))
    obtain ⟨nd, hx⟩ : ∃ x, l[k] = x := ⟨_, rfl⟩
    rw [hx] at c0 c1 c3 c4 c6 hvi hva HE HSX
    obtain ⟨ai, ci, hvie, -⟩ := id hvi
    obtain ⟨aa, ca, hvae, -⟩ := hva.form
    subst hvie
    subst hvae
    have HBM : Hid (Below wr.heap.size wr (wr.alloc (.cells #[.string nd.uid, .int .u8 (nd.kind : Int), .slice ai nd.ins.length ci, .int .u8 (nd.x.op : Int), .int .i64 nd.x.n, .slice aa nd.x.args.length ca, .int .i64 nd.n] 48))) := Lib.hid (below_made wr _)
    have HB1 := Lib.hid (HB.out.trans (HBM.out.mono HB.out.size))
    have HM := Lib.hid (mayStand_any (p := k) (HT.out.on HB1.out) (⟨_, _, rfl, hvi.on HBM.out, hva.under HBM.out⟩ : NodeIs _ (nodeV nd _ _) nd) HSX.out)
    have hbx := @nd_box wr nd (.slice ai nd.ins.length ci) (.slice aa nd.x.args.length ca)
    have HBX := Lib.hid hbx
    obtain ⟨d0, d1, d2, d3, d4, d5, d6⟩ := hbx
    unfold nodeV at HM
    obtain ⟨m, hm⟩ : ∃ m, mayB nd k = m := ⟨_, rfl⟩
    rw [hm] at HM HE
    clear hx hkl hm hvi hva hat
    cases m with
    | false =>
     have HE2 : Hid (Ending.returned (.tuple #[.int .i64 (k : Int), .int .i64 120]) = .returned (.tuple #[.int .i64 (aloneO l).1, .int .i64 (aloneO l).2])) := Lib.hid (by
      have e0 : errAt l k = 120 := by rw [HE.out]; rfl
      rw [← HF.out, firstErr_stop (by rw [e0]; decide), e0])
     go_wp2_with fail
     refine HM.out.mono ?_
     rintro e w1 ⟨rfl, hb1⟩
     have HX := Lib.hid (HB1.out.trans (hb1.mono HB1.out.size)); clear hb1 d0 d1 d2 d3 d4 d5 d6 c0 c1 c2 c3 c4 c5 c6
     go_wp2_with fail
     try rw [Exit.noGoto_ret]
     go_ret2
     exact ⟨HE2.out, HX.out⟩
    | true =>
     obtain ⟨q, hq⟩ : ∃ q, findI (l.take k) nd.uid = q := ⟨_, rfl⟩
     rw [hq] at HE
     have HNM : Hid (∀ w', Below wr.heap.size wr w' → Calls Tryz.prog 58 #[.slice (some ⟨b, 0, none⟩) k c, .string nd.uid] w' fun e w'' => e = .returned (.int .i64 q) ∧ Below w'.heap.size w' w'') := Lib.hid (fun w' hb => by
      have := named_any nd.uid (HTK.out.on hb) (by rw [List.length_take]; omega)
      rw [hq] at this
      exact this)
     clear hq
     go_wp2_with fail
     refine HM.out.mono ?_
     rintro e w1 ⟨rfl, hb1⟩
     have HX := Lib.hid (HB1.out.trans (hb1.mono HB1.out.size))
     have HBW := Lib.hid (below_on' HBM.out hb1)
     obtain ⟨e0, e1, e2, e3, e4, e5, e6⟩ := HBX.out.on hb1
     clear hb1 d0 d1 d2 d3 d4 d5 d6 c0 c1 c2 c3 c4 c5 c6 e1 e2 e3 e4 e5 e6
     go_wp2_with fail
     by_cases hq0 : 0 ≤ q
     · have HE2 : Hid (Ending.returned (.tuple #[.int .i64 (k : Int), .int .i64 121]) = .returned (.tuple #[.int .i64 (aloneO l).1, .int .i64 (aloneO l).2])) := Lib.hid (by
        have e0 : errAt l k = 121 := by rw [HE.out, if_neg (by simp), if_pos hq0]
        rw [← HF.out, firstErr_stop (by rw [e0]; decide), e0])
       go_region_with (go_at_call 58; ((with_reducible refine (HNM.out _ (by first | exact HBW.out | exact HBW.out.drew)).mono ?_); rintro e w2 ⟨rfl, hb2⟩))
       all_goals
        have HX2 := Lib.hid (HX.out.drew.trans ((hb2 : Below w1.heap.size _ w2).mono HX.out.size)); clear hb2
        go_wp2_with fail
        try rw [Exit.noGoto_ret]
        go_ret2
        exact ⟨HE2.out, ⟨HX2.out.os, HX2.out.tape, HX2.out.output, HX2.out.size, HX2.out.block⟩⟩
     · have HE2 : Hid (firstErr (errAt l) g (k + 1) = aloneO l) := Lib.hid (by
        have e0 : errAt l k = 0 := by rw [HE.out, if_neg (by simp), if_neg hq0]
        rw [← HF.out, firstErr_step e0])
       go_region_with (go_at_call 58; ((with_reducible refine (HNM.out _ (by first | exact HBW.out | exact HBW.out.drew)).mono ?_); rintro e w2 ⟨rfl, hb2⟩))
       all_goals
        have HX2 := Lib.hid (HX.out.drew.trans ((hb2 : Below w1.heap.size _ w2).mono HX.out.size)); clear hb2
        go_wp2_with fail
        go_roundg g
        case rel => exact ⟨k + 1, by omega, by go_num, HE2.out, ⟨HX2.out.os, HX2.out.tape, HX2.out.output, HX2.out.size, HX2.out.block⟩⟩
        case measure => omega
  · have hki : ¬ (k : Int) < (n : Int) := by omega
    have hg0 : gk = 0 := by omega
    subst hg0
    have HE : Hid (Ending.returned (.tuple #[.int .i64 0, .int .i64 0]) = .returned (.tuple #[.int .i64 (aloneO l).1, .int .i64 (aloneO l).2])) := Lib.hid (by rw [← HF.out]; rfl)
    clear hkn
    go_wp2_with fail
    try rw [Exit.noGoto_ret]
    go_ret2
    exact ⟨HE.out, HB.out⟩
end
end Go.Proofs.YtepdecnegihhhaaGreatDoor.jb
