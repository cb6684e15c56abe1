/- What changelingref09.Of, changelingref12.typed and changelingref12.Parts answer. What changelingref12.Parts answers. -/
import Derived.Test.YtnelfokfgnikfaaDoorRfE
import Derived.Test.YtnelfokfgnikfaaDoorMNm
section
namespace Go.Proofs.YtnelfokfgnikfaaDoor.rf
set_option linter.unusedSimpArgs false
set_option linter.unusedVariables false
open Go.RowKit nam exp jb

set_option maxHeartbeats 1600000 in
set_option maxRecDepth 1000000 in
theorem rkind_any {x : Ex} {va : Value} {w : World} (acc : Bool) (h : Lies w Any va x.args) (hs : x.size ≤ 1000000) :
    Calls Tryd.prog 84 #[exV x va, .bool acc] w fun e w' => e = .returned (.tuple #[.int .u8 ((kindO x acc).1 : Int), .int .i64 (kindO x acc).2]) ∧ Below w.heap.size w w' := by
  obtain ⟨aa, ca, rfl, -⟩ := h.form
  obtain ⟨N, hN⟩ : ∃ N, w.heap.size = N := ⟨_, rfl⟩
  obtain ⟨W, hW⟩ : ∃ W, w.alloc (.cells #[.int .u8 (x.op : Int), .int .i64 x.n, .slice aa x.args.length ca] 50) = W := ⟨_, rfl⟩
  have hwb : Below w.heap.size w W := by rw [← hW]; exact below_made _ _
  obtain ⟨c0, c1, c2⟩ := box_cells hW
  rw [hN] at c0 c1 c2
  have HB := Lib.hid hwb
  have HL := Lib.hid (h.under hwb)
  have HMY := Lib.hid (rmay_any HL.out hs)
  have HAC : Hid (∀ w', Below W.heap.size W w' → Calls Tryd.prog 95 #[exV x (.slice aa x.args.length ca)] w' fun e w'' => e = .returned (.bool x.acc) ∧ Below w'.heap.size w' w'') := Lib.hid (fun w' hb => raccs_any x.size hs x (Nat.le_refl _) _ w' (HL.out.under hb))
  have HOF : Hid (good FM x 1 = true → ∀ w', Below W.heap.size W w' → Calls Tryd.prog 96 #[exV x (.slice aa x.args.length ca)] w' fun e w'' => e = .returned (.int .u8 (x.ty : Int)) ∧ Below w'.heap.size w' w'') := Lib.hid (fun hg w' hb => rof_any x.size hs x (Nat.le_refl _) _ w' ((good_FM x 1).1 hg).2 (HL.out.under hb))
  obtain ⟨g, hg⟩ : ∃ b, good FM x 1 = b := ⟨_, rfl⟩
  obtain ⟨ac, hac⟩ : ∃ b, x.acc = b := ⟨_, rfl⟩
  obtain ⟨ty, hty⟩ : ∃ b, x.ty = b := ⟨_, rfl⟩
  have HK : Hid (kindO x acc = if g = false then (0, 2) else if ac = true ∧ acc = false then (0, 90) else if ty = 0 then (0, 91) else (ty, 0)) := Lib.hid (by unfold kindO; rw [hg, hac, hty])
  rw [hg] at HMY HOF
  rw [hac] at HAC
  rw [hty] at HOF
  unfold exV at *
  rw [HK.out]
  clear h hwb hs hg hac hty HK
  have key : ∀ (k : Nat × Int) (w' : World), Below w.heap.size w w' → (Ending.returned (.tuple #[.int .u8 (k.1 : Int), .int .i64 k.2]) = Ending.returned (.tuple #[.int .u8 (k.1 : Int), .int .i64 k.2]) ∧ Below w.heap.size w w') := fun k w' h => ⟨rfl, h⟩
  have HKEY := Lib.hid key
  clear key
  cases g with
  | false =>
    rw [if_pos rfl]
    go_enter Tryd.func84, Tryd.ntmps84
    go_wp2_with fail
    refine HMY.out.mono ?_
    rintro e w1 ⟨rfl, hb1⟩
    have HB1 := Lib.hid (HB.out.trans (hb1.mono HB.out.size)); clear hb1
    go_wp2_with fail
    go_ret2
    exact ⟨rfl, by first | exact HB1.out | (rw [← hN]; exact HB1.out)⟩
  | true =>
    rw [if_neg (by simp)]
    have HOF2 := Lib.hid (HOF.out rfl)
    by_cases hz : ac = true ∧ acc = false
    · rw [if_pos hz]
      obtain ⟨rfl, rfl⟩ := hz
      go_enter Tryd.func84, Tryd.ntmps84
      go_wp2_with fail
      refine HMY.out.mono ?_
      rintro e w1 ⟨rfl, hb1⟩
      have HB1 := Lib.hid hb1
      have HA1 := Lib.hid (HAC.out w1 hb1)
      obtain ⟨c0, c1, c2⟩ : _ ∧ _ ∧ _ := ⟨cell_on c0 hb1, cell_on c1 hb1, cell_on c2 hb1⟩
      clear hb1
      go_wp2_with fail
      refine HA1.out.mono ?_
      rintro e w2 ⟨rfl, hb2⟩
      have HB2 := Lib.hid (HB.out.trans ((HB1.out.trans (hb2.mono HB1.out.size)).mono HB.out.size)); clear hb2
      go_wp2_with fail
      go_ret2
      exact ⟨rfl, by first | exact HB2.out | (rw [← hN]; exact HB2.out)⟩
    · rw [if_neg hz]
      have tail : ∀ w3, Below W.heap.size W w3 → True := fun _ _ => trivial
      cases acc with
      | true =>
        clear hz tail
        by_cases h0 : ty = 0
        · rw [if_pos h0]
          have hd : ((ty : Int) == 0) = true := by simp [h0]
          clear h0
          go_enter Tryd.func84, Tryd.ntmps84
          go_wp2_with fail
          refine HMY.out.mono ?_
          rintro e w1 ⟨rfl, hb1⟩
          have HB1 := Lib.hid hb1
          have HA1 := Lib.hid (HOF2.out w1 hb1)
          obtain ⟨c0, c1, c2⟩ : _ ∧ _ ∧ _ := ⟨cell_on c0 hb1, cell_on c1 hb1, cell_on c2 hb1⟩
          clear hb1
          go_wp2_with fail
          refine HA1.out.mono ?_
          rintro e w2 ⟨rfl, hb2⟩
          have HB2 := Lib.hid (HB.out.trans ((HB1.out.trans (hb2.mono HB1.out.size)).mono HB.out.size)); clear hb2
          go_wp2_with fail
          go_ret2
          exact ⟨rfl, by first | exact HB2.out | (rw [← hN]; exact HB2.out)⟩
        · rw [if_neg h0]
          have hd : ((ty : Int) == 0) = false := by simp [h0]
          clear h0
          go_enter Tryd.func84, Tryd.ntmps84
          go_wp2_with fail
          refine HMY.out.mono ?_
          rintro e w1 ⟨rfl, hb1⟩
          have HB1 := Lib.hid hb1
          have HA1 := Lib.hid (HOF2.out w1 hb1)
          obtain ⟨c0, c1, c2⟩ : _ ∧ _ ∧ _ := ⟨cell_on c0 hb1, cell_on c1 hb1, cell_on c2 hb1⟩
          clear hb1
          go_wp2_with fail
          refine HA1.out.mono ?_
          rintro e w2 ⟨rfl, hb2⟩
          have HB2 := Lib.hid (HB.out.trans ((HB1.out.trans (hb2.mono HB1.out.size)).mono HB.out.size)); clear hb2
          go_wp2_with fail
          go_ret2
          exact ⟨rfl, by first | exact HB2.out | (rw [← hN]; exact HB2.out)⟩
      | false =>
        obtain rfl : ac = false := by cases ac <;> simp at hz ⊢
        clear hz tail
        by_cases h0 : ty = 0
        · rw [if_pos h0]
          have hd : ((ty : Int) == 0) = true := by simp [h0]
          clear h0
          go_enter Tryd.func84, Tryd.ntmps84
          go_wp2_with fail
          refine HMY.out.mono ?_
          rintro e w1 ⟨rfl, hb1⟩
          have HB1 := Lib.hid hb1
          have HA1 := Lib.hid (HAC.out w1 hb1)
          obtain ⟨c0, c1, c2⟩ : _ ∧ _ ∧ _ := ⟨cell_on c0 hb1, cell_on c1 hb1, cell_on c2 hb1⟩
          clear hb1
          go_wp2_with fail
          refine HA1.out.mono ?_
          rintro e w2 ⟨rfl, hb2⟩
          have hB2 := HB1.out.trans (hb2.mono HB1.out.size)
          have HB2 := Lib.hid hB2
          have HA2 := Lib.hid (HOF2.out w2 hB2)
          obtain ⟨c0, c1, c2⟩ : _ ∧ _ ∧ _ := ⟨cell_on c0 hb2, cell_on c1 hb2, cell_on c2 hb2⟩
          clear hb2 hB2
          go_wp2_with fail
          refine HA2.out.mono ?_
          rintro e w3 ⟨rfl, hb3⟩
          have HB3 := Lib.hid (HB.out.trans ((HB2.out.trans (hb3.mono HB2.out.size)).mono HB.out.size)); clear hb3
          go_wp2_with fail
          go_ret2
          exact ⟨rfl, by first | exact HB3.out | (rw [← hN]; exact HB3.out)⟩
        · rw [if_neg h0]
          have hd : ((ty : Int) == 0) = false := by simp [h0]
          clear h0
          go_enter Tryd.func84, Tryd.ntmps84
          go_wp2_with fail
          refine HMY.out.mono ?_
          rintro e w1 ⟨rfl, hb1⟩
          have HB1 := Lib.hid hb1
          have HA1 := Lib.hid (HAC.out w1 hb1)
          obtain ⟨c0, c1, c2⟩ : _ ∧ _ ∧ _ := ⟨cell_on c0 hb1, cell_on c1 hb1, cell_on c2 hb1⟩
          clear hb1
          go_wp2_with fail
          refine HA1.out.mono ?_
          rintro e w2 ⟨rfl, hb2⟩
          have hB2 := HB1.out.trans (hb2.mono HB1.out.size)
          have HB2 := Lib.hid hB2
          have HA2 := Lib.hid (HOF2.out w2 hB2)
          obtain ⟨c0, c1, c2⟩ : _ ∧ _ ∧ _ := ⟨cell_on c0 hb2, cell_on c1 hb2, cell_on c2 hb2⟩
          clear hb2 hB2
          go_wp2_with fail
          refine HA2.out.mono ?_
          rintro e w3 ⟨rfl, hb3⟩
          have HB3 := Lib.hid (HB.out.trans ((HB2.out.trans (hb3.mono HB2.out.size)).mono HB.out.size)); clear hb3
          go_wp2_with fail
          go_ret2
          exact ⟨rfl, by first | exact HB3.out | (rw [← hN]; exact HB3.out)⟩
set_option maxHeartbeats 800000 in
set_option maxRecDepth 1000000 in
theorem typed_any {x : Ex} {va : Value} {w : World} (acc : Bool) (t : Nat) (ht : t ≤ 2) (h : Lies w Any va x.args) (hs : x.size ≤ 1000000) :
    Calls Tryd.prog 70 #[exV x va, .bool acc, .int .u8 (t : Int)] w fun e w' => e = .returned (.bool (typedB x acc t)) ∧ Below w.heap.size w w' := by
  obtain ⟨aa, ca, rfl, -⟩ := h.form
  obtain ⟨N, hN⟩ : ∃ N, w.heap.size = N := ⟨_, rfl⟩
  obtain ⟨W, hW⟩ : ∃ W, w.alloc (.cells #[.int .u8 (x.op : Int), .int .i64 x.n, .slice aa x.args.length ca] 50) = W := ⟨_, rfl⟩
  have hwb : Below w.heap.size w W := by rw [← hW]; exact below_made _ _
  obtain ⟨c0, c1, c2⟩ := box_cells hW
  rw [hN] at c0 c1 c2
  have HB := Lib.hid hwb
  have HK := Lib.hid (rkind_any acc (h.under hwb) hs)
  obtain ⟨k, hk⟩ : ∃ k, (kindO x acc).1 = k := ⟨_, rfl⟩
  obtain ⟨e1, he⟩ : ∃ k, (kindO x acc).2 = k := ⟨_, rfl⟩
  rw [hk, he] at HK
  have HT : Hid (typedB x acc t = (decide (e1 = 0) && decide (k = t))) := Lib.hid (by
    unfold typedB
    have : kindO x acc = (k, e1) := by rw [← hk, ← he]
    rw [this, Bool.eq_iff_iff]
    simp
    exact and_comm)
  unfold exV at *
  rw [HT.out]
  clear h hwb hs hk he HT
  by_cases h0 : e1 = 0
  · have hd : (e1 == 0) = true := by simp [h0]
    by_cases h1 : k = t
    · have hd1 : ((k : Int) == (t : Int)) = true := by simp [h1]
      have HR : Hid ((decide (e1 = 0) && decide (k = t)) = true) := Lib.hid (by simp [h0, h1])
      rw [HR.out]
      clear h0 h1
      go_enter Tryd.func70, Tryd.ntmps70
      go_wp2_with fail
      refine HK.out.mono ?_
      rintro e w1 ⟨rfl, hb1⟩
      have HB1 := Lib.hid (HB.out.trans (hb1.mono HB.out.size)); clear hb1
      go_wp2_with fail
      go_ret
      exact ⟨rfl, by first | exact HB1.out | (rw [← hN]; exact HB1.out)⟩
    · have hd1 : ((k : Int) == (t : Int)) = false := by simp; omega
      have HR : Hid ((decide (e1 = 0) && decide (k = t)) = false) := Lib.hid (by simp [h0, h1])
      rw [HR.out]
      clear h0 h1
      go_enter Tryd.func70, Tryd.ntmps70
      go_wp2_with fail
      refine HK.out.mono ?_
      rintro e w1 ⟨rfl, hb1⟩
      have HB1 := Lib.hid (HB.out.trans (hb1.mono HB.out.size)); clear hb1
      go_wp2_with fail
      go_ret
      exact ⟨rfl, by first | exact HB1.out | (rw [← hN]; exact HB1.out)⟩
  · have hd : (e1 == 0) = false := by simp [h0]
    have HR : Hid ((decide (e1 = 0) && decide (k = t)) = false) := Lib.hid (by simp [h0])
    rw [HR.out]
    clear h0
    go_enter Tryd.func70, Tryd.ntmps70
    go_wp2_with fail
    refine HK.out.mono ?_
    rintro e w1 ⟨rfl, hb1⟩
    have HB1 := Lib.hid (HB.out.trans (hb1.mono HB.out.size)); clear hb1
    go_wp2_with fail
    go_ret
    exact ⟨rfl, by first | exact HB1.out | (rw [← hN]; exact HB1.out)⟩
end Go.Proofs.YtnelfokfgnikfaaDoor.rf
end
section
namespace Go.Proofs.YtnelfokfgnikfaaDoor.rf
set_option linter.unusedSimpArgs false
set_option linter.unusedVariables false
open Go.RowKit nam exp jb

/-- How many parts, or so many at least. -/
def PartsOk (s m p : Nat) : Prop := 1 ≤ p ∧ p ≤ s ∧ (s ≤ m → p = s) ∧ (m < s → m ≤ p)
theorem sizes_le : ∀ (l : List Ex) (k : Nat) (hk : k < l.length), sizes (l.take (k + 1)) = sizes (l.take k) + (l[k]).size ∧ sizes (l.take (k + 1)) ≤ sizes l
  | [], k, hk => by simp at hk
  | x :: l, 0, hk => by simp [sizes_cons, sizes_nil]
  | x :: l, k + 1, hk => by
    have := sizes_le l k (by simpa using hk)
    simp only [List.take_succ_cons, sizes_cons, List.getElem_cons_succ]
    omega
set_option maxHeartbeats 1600000 in
set_option maxRecDepth 1000000 in
theorem parts_any : ∀ (s : Nat), s ≤ 1000000 → ∀ (x : Ex), x.size ≤ s → ∀ (va : Value) (w : World) (m : Nat), 1 ≤ m → m ≤ 2000 → Lies w Any va x.args →
    Calls Tryd.prog 50 #[exV x va, .int .i64 (m : Int)] w fun e w' => ∃ p : Nat, e = .returned (.int .i64 (p : Int)) ∧ PartsOk x.size m p ∧ Below w.heap.size w w' := by
  intro s
  induction s with
  | zero => intro _ x hx; have := size_pos x; omega
  | succ s ih =>
    intro hs x hx va w m hm hm2 hla
    obtain ⟨aa, ca, rfl, hfx⟩ := hla.form
    obtain ⟨N, hN⟩ : ∃ N, w.heap.size = N := ⟨_, rfl⟩
    obtain ⟨W, hW⟩ : ∃ W, w.alloc (.cells #[.int .u8 (x.op : Int), .int .i64 x.n, .slice aa x.args.length ca] 50) = W := ⟨_, rfl⟩
    have hwb : Below w.heap.size w W := by rw [← hW]; exact below_made _ _
    obtain ⟨c0, c1, c2⟩ := box_cells hW
    rw [hN] at c0 c1 c2
    have HB := Lib.hid hwb; have HX := Lib.hid hfx
    have HSX := Lib.hid (size_eq x)
    have hxs : x.size ≤ 1000000 := by omega
    have HXS := Lib.hid hxs
    have hlen : (x.args.length : Int) ≤ 1000000 := by have := sizes_len x.args; have := size_eq x; omega
    have HIH : Hid (∀ k (hk : k < x.args.length) (v : Value) (w' : World) (m : Nat), 1 ≤ m → m ≤ 2000 → Lies w' Any v x.args[k].args → Calls Tryd.prog 50 #[exV x.args[k] v, .int .i64 (m : Int)] w' fun e w'' => ∃ p : Nat, e = .returned (.int .i64 (p : Int)) ∧ PartsOk x.args[k].size m p ∧ Below w'.heap.size w' w'') := Lib.hid (fun k hk v w' m h1 h2 h => ih (by omega) x.args[k] (by have := size_arg (List.getElem_mem hk); omega) v w' m h1 h2 h)
    have HSL := Lib.hid (sizes_le x.args)
    have HM1 := Lib.hid hm
    have hmi : (m : Int) ≤ 2000 := by omega
    unfold exV
    clear hla hfx hwb hs hx ih hxs hm
    go_enter Tryd.func50, Tryd.ntmps50
    go_wp2_with fail
    go_loopg [5, 6] x.args.length (fun g v5 v6 wr => ∃ (k n : Nat), k + g = x.args.length ∧ v6 = .int .i64 (k : Int) ∧ v5 = .int .i64 (n : Int) ∧ 1 ≤ n ∧ n ≤ 1 + sizes (x.args.take k) ∧ (n = 1 + sizes (x.args.take k) ∨ m ≤ n) ∧ sizes (x.args.take k) ≤ sizes x.args ∧ Below W.heap.size W wr)
    case atStart => exact ⟨0, 1, by omega, rfl, rfl, by omega, by omega, .inl (by simp [sizes_nil]), by simp [sizes_nil], Below.refl _ _⟩
    case round =>
      rename World => wr
      obtain ⟨k, n, hk, rfl, rfl, hn1, hn2, hn3, hn4, hb⟩ := hrel
      have HBR := Lib.hid hb
      have c2r := cell_on c2 hb
      have hnb : (n : Int) ≤ 1000001 := by have := HSX.out; have := HXS.out; omega
      have HNN := Lib.hid (And.intro hn1 (And.intro hn2 (And.intro hn3 hn4)))
      by_cases hk' : k < x.args.length
      · have hkn : (k : Int) < (x.args.length : Int) := by omega
        by_cases hnm : n < m
        · have hnm' : (n : Int) < (m : Int) := by omega
          obtain ⟨b1, rfl, hat⟩ := HX.out (by omega)
          obtain ⟨a1, d1, p0, p1, p2, hlp, -⟩ := ((hat k hk').below (HB.out.trans (hb.mono HB.out.size))).cells
          have HC := Lib.hid (HIH.out k hk' _ wr (m - n) (by omega) (by omega) hlp)
          unfold exV at HC
          have hsl := HSL.out k hk'
          have hml : (m : Int) - (n : Int) = ((m - n : Nat) : Int) := by omega
          obtain ⟨Y, hY⟩ : ∃ Y, x.args[k] = Y := ⟨_, rfl⟩
          rw [hY] at p0 p1 p2 HC hsl
          have HSL1 := Lib.hid hsl
          clear hb hat hlp hY hsl hn1 hn2 hn3 hn4
          go_wp2_with fail
          refine HC.out.mono ?_
          rintro e w5 ⟨p, rfl, hp, hb5⟩
          have HB5 := Lib.hid (HBR.out.trans (hb5.mono HBR.out.size))
          have HP := Lib.hid hp
          have hpb : (p : Int) ≤ 1000000 := by
            have h1 := hp.2.1; have h2 := HSL1.out; have h3 := HSX.out; have h4 := HXS.out; omega
          have hFIN : Hid (1 ≤ n + p ∧ n + p ≤ 1 + sizes (x.args.take (k + 1)) ∧ (n + p = 1 + sizes (x.args.take (k + 1)) ∨ m ≤ n + p) ∧ sizes (x.args.take (k + 1)) ≤ sizes x.args) := Lib.hid (by
            obtain ⟨q1, q2, q3, q4⟩ := HP.out
            obtain ⟨r1, r2⟩ := HSL1.out
            obtain ⟨n1, n2, n3, n4⟩ := HNN.out
            have hnn : n = 1 + sizes (x.args.take k) := by omega
            refine ⟨by omega, by omega, ?_, r2⟩
            by_cases hsz : Y.size ≤ m - n
            · have := q3 hsz; left; omega
            · have := q4 (by omega); right; omega)
          clear hb5 hp
          go_wp2_with fail
          go_roundg (gk - 1)
          case measure => omega
          case rel => exact ⟨k + 1, n + p, by omega, by go_num, by go_num, hFIN.out.1, hFIN.out.2.1, hFIN.out.2.2.1, hFIN.out.2.2.2, HB5.out⟩
        · have hnm' : ¬ (n : Int) < (m : Int) := by omega
          have HF : Hid (PartsOk x.size m n) := Lib.hid (by
            have h1 := HSX.out
            exact ⟨hn1, by omega, fun h => by omega, fun h => by omega⟩)
          clear hb hn1 hn2 hn3 hn4 hnm
          go_wp2_with fail
          try rw [Exit.noGoto_ret]
          go_ret
          exact ⟨n, rfl, HF.out, by first | exact HB.out.trans (HBR.out.mono HB.out.size) | (rw [← hN]; exact HB.out.trans (HBR.out.mono HB.out.size))⟩
      · have hkn : ¬ (k : Int) < (x.args.length : Int) := by omega
        have HF : Hid (PartsOk x.size m n) := Lib.hid (by
          have h1 := HSX.out
          have htk : x.args.take k = x.args := List.take_of_length_le (by omega)
          rw [htk] at hn2 hn3
          exact ⟨hn1, by omega, fun h => by omega, fun h => by omega⟩)
        clear hb hn1 hn2 hn3 hn4
        go_wp2_with fail
        try rw [Exit.noGoto_ret]
        go_ret
        exact ⟨n, rfl, HF.out, by first | exact HB.out.trans (HBR.out.mono HB.out.size) | (rw [← hN]; exact HB.out.trans (HBR.out.mono HB.out.size))⟩
end Go.Proofs.YtnelfokfgnikfaaDoor.rf
end
