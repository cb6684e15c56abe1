/- The document's examples: the law OperKnown. -/
import Derived.Test.YtamdbfkofdjmlaaOqJ
namespace Go.Proofs.Ytamdbfkofdjmlaa.opr
set_option linter.unusedSimpArgs false
set_option linter.unusedVariables false
open Go.RowKit
attribute [local go_sem ↓] Go.wp_at_zero Go.wp_at_succ
open Go.Proofs.Ytamdbfkofdjmlaa.tbl (Only lt_of_get IsTab Two putO delL MadeT)
open Go.Proofs.Ytamdbfkofdjmlaa.grp (below_on' below_made fits)
open Go.Proofs.Ytamdbfkofdjmlaa.exp (Ex Lies En intO exV enV)
theorem val_two : intO (.mk 3 0 []) ⟨5, 2, 0⟩ = 2 := by kernel_rfl
def flO (k : Nat) : List Rc := if k = 0 then [(8, 5, 2), (9, 5, 3)] else []
theorem outs_len (o : Nat → List Rc) (n m : Nat) (h : ∀ k, n ≤ k → o k = []) (hm : ∀ k, k ≤ n → (outsTo o k).length ≤ m) : ∀ k, (outsTo o k).length ≤ m := by
  intro k
  by_cases hk : k ≤ n
  · exact hm k hk
  · obtain ⟨d, rfl⟩ : ∃ d, k = n + d := ⟨k - n, by omega⟩
    clear hk
    induction d with
    | zero => exact hm n (Nat.le_refl _)
    | succ d ih => rw [show n + (d + 1) = (n + d) + 1 by omega, outsTo_succ, h _ (by omega), List.append_nil]; exact ih
theorem fl_do {w : World} {ai : Option Addr} {u : Value} (hu : Sr w u [(1, 5, 2)]) :
    Calls Try.prog 7 #[nodeV ⟨⟨#[110]⟩, 4, ai, 1, 1, 3, 0, none, 0, 0, 0⟩, .pointer none, u] w fun e w' => ∃ v', e = .returned v' ∧ Own w' w.heap.size v' [(8, 5, 2), (9, 5, 3)] ∧ Below w.heap.size w w' := by
  refine (do_any _ none hu (by simp) (fun _ => False) (fun k hk => hk.elim) (fun _ _ _ _ => id) 40 (enters_of Try.func40 (by kernel_rfl) rfl) (fun bd k w' => FlI ⟨⟨#[110]⟩, 4, ai, 1, 1, 3, 0, none, 0, 0, 0⟩ [] (fun _ => False) bd w') flO
    (fun k => Nat.le_trans (outs_len flO 1 2 (fun k hk => if_neg (by omega)) (fun k hk => by
      obtain rfl | rfl : k = 0 ∨ k = 1 := by omega
      · decide
      · decide) k) (by decide)) (fun bd k w' w'' h hs => h.stay hs) (fun w' hw => picked_flat _ _ _ _ _ _ _ _ _ _ none .nil) (fun bd k r w' hr hI => ?_)).mono ?_
  · match k, hr with
    | 0, hr =>
      injection hr with hr
      subst hr
      refine (flat_step hI (by show (Ex.mk 3 0 []).size ≤ 1000000; decide) val_two).mono ?_
      rintro e w'' ⟨v', h1, h2, h3, h4⟩
      exact ⟨v', h1, h2, h3, .of_below h4⟩
    | k + 1, hr => simp at hr
  · rintro e w' ⟨v', rfl, h1, -, h2⟩
    exact ⟨v', rfl, h1, ⟨h2.os, h2.tape, h2.output, h2.size, fun k hk => h2.block k hk id⟩⟩
def wnL (k : Nat) : tbl.Rows := match k with
  | 0 => []
  | 1 => [(5, (0, [2]))]
  | 2 => [(5, (0, [2])), (6, (0, [1]))]
  | _ => [(6, (0, [1]))]
def wnO (k : Nat) : List Rc := if k = 2 then [(3, 5, 6)] else []
theorem sum_ex : sumI ([2] ++ [4]) = 6 := by kernel_rfl
theorem del_ex : delL (wnL 2) 5 = wnL 3 := by kernel_rfl
theorem win_do {w : World} {ai : Option Addr} {t b : Nat} {u : Value} (ht : IsTab w t b []) (hu : Sr w u [(1, 5, 2), (2, 6, 1), (3, 5, 4)]) (hne : ∀ a n c, u = .slice (some a) n c → ¬ Two t b a.block) :
    Calls Try.prog 7 #[nodeV ⟨⟨#[110]⟩, 7, ai, 1, 1, 0, 0, none, 0, 0, (2 : Nat)⟩, .pointer (some ⟨t, 0, none⟩), u] w fun e w' => ∃ v', e = .returned v' ∧ Own w' w.heap.size v' [(3, 5, 6)] ∧ Only (Two t b) w w' := by
  refine (do_any _ (some ⟨t, 0, none⟩) hu (by simp) (Two t b) (fun k hk => by obtain ⟨h1, h2, _⟩ := ht.lt; rcases hk with rfl | rfl <;> assumption) hne 61 (enters_of Try.func61 (by kernel_rfl) rfl) (fun bd k w' => GatI t b 2 bd (wnL k) w') wnO
    (fun k => Nat.le_trans (outs_len wnO 3 1 (fun k hk => if_neg (by omega)) (fun k hk => by
      obtain rfl | rfl | rfl | rfl : k = 0 ∨ k = 1 ∨ k = 2 ∨ k = 3 := by omega
      all_goals decide) k) (by decide)) (fun bd k w' w'' h hs => h.stay hs) (fun w' hw => picked_win _ _ _ _ _ _ _ _ _ 2 (ht.below hw)) (fun bd k r w' hr hI => ?_)).mono ?_
  · match k, hr with
    | 0, hr =>
      injection hr with hr
      subst hr
      exact gat_new hI (by decide) (by decide) (1, 5, 2) ⟨by decide, by decide⟩ ⟨by decide, by decide⟩ (by rfl) (L1 := [(5, (0, []))]) (by decide) (by decide)
    | 1, hr =>
      injection hr with hr
      subst hr
      exact gat_new hI (by decide) (by decide) (2, 6, 1) ⟨by decide, by decide⟩ ⟨by decide, by decide⟩ (by rfl) (L1 := [(5, (0, [2])), (6, (0, []))]) (by decide) (by decide)
    | 2, hr =>
      injection hr with hr
      subst hr
      refine (gat_full hI (3, 5, 4) ⟨by decide, by decide⟩ (ns := [2]) (x := 0) rfl (by decide) (by rfl) (by decide)).mono ?_
      rintro e w'' ⟨v', h1, h2, h3, h4⟩
      dsimp only at h2 h3
      rw [sum_ex] at h2
      rw [del_ex] at h3
      exact ⟨v', h1, h2, h3, h4⟩
    | k + 3, hr => simp at hr
  · rintro e w' ⟨v', rfl, h1, -, h2⟩
    exact ⟨v', rfl, h1, h2⟩
theorem own_two {w w' : World} {t b B : Nat} {L : tbl.Rows} {v : Value} {l : List Rc} (h : Own w B v l) (ht : IsTab w t b L) (ho : Only (Two t b) w w') : Own w' B v l := by
  rcases h.2 with ⟨e1, e2⟩ | ⟨g, cap, cur, e1, e2, e3, e4⟩
  · exact ⟨h.1, .inl ⟨e1, e2⟩⟩
  · exact ⟨h.1, .inr ⟨g, cap, cur, e1, e2, only_two ht ho e3 (fun cur fr e => by cases e) (fun es ck e => by cases e), e4⟩⟩
theorem lr_two' {w : World} (v v' : Value) (l l' : List Rc) (h : Sr w v l) (h' : Sr w v' l') : Lr (w.alloc (.cells #[v, v'] 22)) (.slice (some ⟨w.heap.size, 0, none⟩) 2 2) [v, v'] [l, l'] := by
  refine ⟨_, 2, rfl, rfl, Nat.le_refl _, fun _ => ⟨w.heap.size, 0, rfl, by simp, fun i x hx => ?_⟩, fun i x q hx hq => ?_⟩
  · rw [cell_of_row _ _ _ _ _ _ (Go.heap_alloc_new w _), Nat.zero_add]
    simpa using hx
  · match i, hx, hq with
    | 0, hx, hq =>
      injection hx with hx
      injection hq with hq
      subst hx hq
      exact h.below (below_made _ _)
    | 1, hx, hq =>
      injection hx with hx
      injection hq with hq
      subst hx hq
      exact h'.below (below_made _ _)
    | i + 2, hx, _ => simp at hx
theorem gets_ex : srt (pre true [[(2, 0, 1)], [(1, 0, 2)]] 2) = [(9, 0, 2), (16, 0, 1)] := by kernel_rfl
theorem eq_yes' {w : World} {u v : Value} {L : List Rc} (h : Sr w u L) (h' : Sr w v L) (hl : L.length ≤ 1000000) :
    Calls Try.prog 12 #[u, v] w fun e w' => e = .returned (.bool true) ∧ Below w.heap.size w w' :=
  (equal_any h h' hl hl).mono fun e w' ⟨h1, h2⟩ => ⟨by rw [h1, decide_eq_true rfl], h2⟩
theorem gets_exa {w : World} {v : Value} {vs : List Value} (h : Lr w v vs [[(2, 0, 1)], [(1, 0, 2)]]) :
    Calls Try.prog 10 #[nodeV ⟨⟨#[]⟩, 8, none, 0, 0, 0, 0, none, 0, 0, 0⟩, v] w fun e w' => ∃ v', e = .returned v' ∧ Own w' w.heap.size v' [(9, 0, 2), (16, 0, 1)] ∧ Below w.heap.size w w' := by
  have h1 := gets_any h (by decide) (by decide) ⟨⟨#[]⟩, 8, none, 0, 0, 0, 0, none, 0, 0, 0⟩
  dsimp only at h1
  rw [show decide (8 = 8) = true from rfl, show ([[(2, 0, 1)], [(1, 0, 2)]] : List (List Rc)).length = 2 from rfl, gets_ex] at h1
  exact h1
set_option maxHeartbeats 12800000 in
set_option maxRecDepth 1000000 in
theorem law_known (w : World) : Calls Try.prog 3 #[] w fun e w' => e = .returned (.bool true) ∧ Below w.heap.size w w' := by
  have HN1 : Hid (Calls Try.prog 8 #[.int .u8 4, .int .u8 3, .int .u8 0, .int .u8 0, .int .i64 0] w fun e w' => ∃ a, e = .returned (nodeV ⟨⟨#[110]⟩, 4, a, 1, 1, 3, 0, none, 0, 0, 0⟩) ∧ Below w.heap.size w w') := Lib.hid (node_none 4 3 0 w)
  have HN2 : Hid (∀ w, Calls Try.prog 8 #[.int .u8 7, .int .u8 0, .int .u8 0, .int .u8 0, .int .i64 2] w fun e w' => ∃ a, e = .returned (nodeV ⟨⟨#[110]⟩, 7, a, 1, 1, 0, 0, none, 0, 0, (2 : Nat)⟩) ∧ Below w.heap.size w w') := Lib.hid (fun w => node_none 7 0 2 w)
  have HNEW := Lib.hid (fun w => tbl.new_any w)
  have HFL := Lib.hid (fun w ai u hu => fl_do (w := w) (ai := ai) (u := u) hu)
  have HWN := Lib.hid (fun w ai t b u ht hu hne => win_do (w := w) (ai := ai) (t := t) (b := b) (u := u) ht hu hne)
  have HGT := Lib.hid (fun (w : World) (v : Value) (vs : List Value) (h : Lr w v vs [[(2, 0, 1)], [(1, 0, 2)]]) => gets_exa h)
  have HEQ := Lib.hid (fun w u v L h h' hl => eq_yes' (w := w) (u := u) (v := v) (L := L) h h' hl)
  have HWK := Lib.hid (fun w => works_any w)
  unfold nodeV Nv.cells at HN1 HN2 HFL HWN HGT
  dsimp only at HN1 HN2 HFL HWN HGT
  go_enter Try.func3, Try.ntmps3
  go_wp2_with fail
  (with_reducible refine HN1.out.mono ?_)
  rintro e w1 ⟨ai, rfl, hb1⟩
  have hb2 := below_made w1 (.cells #[.int .i64 1, .int .i64 5, .int .i64 2] 32)
  have hsr := sr_made w1 [(1, 5, 2)] (by decide) (by decide) #[.int .i64 1, .int .i64 5, .int .i64 2] rfl
  have HC1 := Lib.hid (HFL.out _ ai _ hsr)
  have HB2 := Lib.hid (below_on' hb1 hb2)
  clear hb1 hb2 hsr HN1 HFL
  go_wp2_with fail
  refine HC1.out.mono ?_
  rintro e w2 ⟨va, rfl, oa, hb3⟩
  obtain ⟨aa, ca, rfl⟩ := oa.len
  have HOA := Lib.hid oa
  have HB3 := Lib.hid (below_on' HB2.out hb3)
  clear oa hb3 HC1
  go_wp2_with fail
  (with_reducible refine (HN2.out _).mono ?_)
  rintro e w3 ⟨ai2, rfl, hb4⟩
  have HOA3 := Lib.hid (HOA.out.below hb4)
  have HB4 := Lib.hid (below_on' HB3.out hb4)
  clear hb4 HN2
  go_wp2_with fail
  refine (HNEW.out _).mono ?_
  rintro e w4 ⟨t, b, rfl, ht4, htb, hbb, hb5⟩
  have hb6 := below_made w4 (.cells #[.int .i64 1, .int .i64 5, .int .i64 2, .int .i64 2, .int .i64 6, .int .i64 1, .int .i64 3, .int .i64 5, .int .i64 4] 32)
  have hsr := sr_made w4 [(1, 5, 2), (2, 6, 1), (3, 5, 4)] (by decide) (by decide) #[.int .i64 1, .int .i64 5, .int .i64 2, .int .i64 2, .int .i64 6, .int .i64 1, .int .i64 3, .int .i64 5, .int .i64 4] rfl
  have HC2 := Lib.hid (HWN.out _ ai2 t b _ (ht4.below hb6) hsr (fun a n c e => by
    injection e with e1 e2 e3
    injection e1 with e1
    rw [← e1]
    exact not_two (ht4.below hb6) (Go.heap_alloc_new w4 _)))
  have HOA5 := Lib.hid ((HOA3.out.below hb5).below hb6)
  have HT5 := Lib.hid (ht4.below hb6)
  have HTS := Lib.hid (And.intro htb (And.intro hbb HB4.out.size))
  have HB6 := Lib.hid (below_on' (below_on' HB4.out hb5) hb6)
  clear ht4 htb hbb hb5 hb6 hsr
  go_wp2_with fail
  refine HC2.out.mono ?_
  rintro e w5 ⟨vb, rfl, ob, hob⟩
  obtain ⟨ab, cb, rfl⟩ := ob.len
  have HOB := Lib.hid ob.sr
  have HOA6 := Lib.hid (own_two HOA5.out HT5.out hob).sr
  have HB7 := Lib.hid (HB6.out.trans (hob.below HB6.out.size (fun k hk => by
    obtain ⟨h1, h2, h3⟩ := HTS.out
    rcases hk with rfl | rfl <;> omega)))
  clear ob hob HC2 HWN HNEW
  have hb8 := below_made w5 (.cells #[.int .i64 2, .int .i64 0, .int .i64 1] 32)
  have hs1 := sr_made w5 [(2, 0, 1)] (by decide) (by decide) #[.int .i64 2, .int .i64 0, .int .i64 1] rfl
  obtain ⟨W6, hW6⟩ : ∃ W, w5.alloc (.cells #[.int .i64 2, .int .i64 0, .int .i64 1] 32) = W := ⟨_, rfl⟩
  have hz6 : W6.heap.size = w5.heap.size + 1 := by rw [← hW6, World.size_alloc]
  rw [hW6] at hb8 hs1
  have hb9 := below_made W6 (.cells #[.int .i64 1, .int .i64 0, .int .i64 2] 32)
  have hs2 := sr_made W6 [(1, 0, 2)] (by decide) (by decide) #[.int .i64 1, .int .i64 0, .int .i64 2] rfl
  have hlr := lr_two' _ _ _ _ (hs1.below hb9) hs2
  have hb10 := below_made (W6.alloc (.cells #[.int .i64 1, .int .i64 0, .int .i64 2] 32)) (.cells #[.slice (some ⟨w5.heap.size, 0, none⟩) 1 1, .slice (some ⟨W6.heap.size, 0, none⟩) 1 1] 22)
  simp only [World.size_alloc, hz6] at hlr
  rw [← hW6] at hlr
  have HC3 := Lib.hid (HGT.out _ _ _ hlr)
  have HB10 := Lib.hid (below_on' (below_on' (below_on' HB7.out hb8) hb9) hb10)
  have HOB2 := Lib.hid (((HOB.out.below hb8).below hb9).below hb10)
  have HOA7 := Lib.hid (((HOA6.out.below hb8).below hb9).below hb10)
  simp only [hz6] at HB10 HOB2 HOA7
  rw [← hW6] at HB10 HOB2 HOA7
  clear hb8 hs1 hW6 hz6 hb9 hs2 hlr hb10 HGT
  go_wp2_with fail
  refine HC3.out.mono ?_
  rintro e w6 ⟨vc, rfl, oc, hb11⟩
  obtain ⟨ac, cc, rfl⟩ := oc.len
  have HOC := Lib.hid oc.sr
  have HOA8 := Lib.hid (HOA7.out.below hb11)
  have HOB3 := Lib.hid (HOB2.out.below hb11)
  have HB11 := Lib.hid (below_on' HB10.out hb11)
  clear oc hb11 HC3
  go_wp2_with fail
  refine (HWK.out _).mono ?_
  rintro e w7 ⟨rfl, hb12⟩
  have ba := below_made w7 (.cells #[.int .i64 8, .int .i64 5, .int .i64 2, .int .i64 9, .int .i64 5, .int .i64 3] 32)
  have sa := sr_made w7 [(8, 5, 2), (9, 5, 3)] (by decide) (by decide) #[.int .i64 8, .int .i64 5, .int .i64 2, .int .i64 9, .int .i64 5, .int .i64 3] rfl
  have HEA := Lib.hid (HEQ.out _ _ _ _ ((HOA8.out.below hb12).below ba) sa (by decide))
  have HOB4 := Lib.hid ((HOB3.out.below hb12).below ba)
  have HOC4 := Lib.hid ((HOC.out.below hb12).below ba)
  have HB12 := Lib.hid (below_on' (below_on' HB11.out hb12) ba)
  clear hb12 ba sa
  go_wp2_with fail
  refine HEA.out.mono ?_
  rintro e w8 ⟨rfl, hb13⟩
  have ba := below_made w8 (.cells #[.int .i64 3, .int .i64 5, .int .i64 6] 32)
  have sa := sr_made w8 [(3, 5, 6)] (by decide) (by decide) #[.int .i64 3, .int .i64 5, .int .i64 6] rfl
  have HEB := Lib.hid (HEQ.out _ _ _ _ ((HOB4.out.below hb13).below ba) sa (by decide))
  have HOC5 := Lib.hid ((HOC4.out.below hb13).below ba)
  have HB13 := Lib.hid (below_on' (below_on' HB12.out hb13) ba)
  clear hb13 ba sa
  go_wp2_with fail
  refine HEB.out.mono ?_
  rintro e w9 ⟨rfl, hb14⟩
  have ba := below_made w9 (.cells #[.int .i64 9, .int .i64 0, .int .i64 2, .int .i64 16, .int .i64 0, .int .i64 1] 32)
  have sa := sr_made w9 [(9, 0, 2), (16, 0, 1)] (by decide) (by decide) #[.int .i64 9, .int .i64 0, .int .i64 2, .int .i64 16, .int .i64 0, .int .i64 1] rfl
  have hoc := (HOC5.out.below hb14).below ba
  have HEC := Lib.hid (HEQ.out _ _ _ [(9, 0, 2), (16, 0, 1)] hoc sa (by decide))
  have HB14 := Lib.hid (below_on' (below_on' HB13.out hb14) ba)
  clear hb14 ba sa hoc
  go_wp2_with fail
  refine HEC.out.mono ?_
  rintro e w10 ⟨rfl, hb15⟩
  have HB15 := Lib.hid (below_on' HB14.out hb15)
  clear hb15
  go_wp2
  go_ret
  exact ⟨rfl, HB15.out⟩
end Go.Proofs.Ytamdbfkofdjmlaa.opr
