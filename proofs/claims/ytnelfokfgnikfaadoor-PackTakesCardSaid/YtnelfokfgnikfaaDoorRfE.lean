/- What changelingref09.of answers of an expression that may be. -/
import Derived.Test.YtnelfokfgnikfaaDoorRfC
namespace Go.Proofs.YtnelfokfgnikfaaDoor.rf
set_option linter.unusedSimpArgs false
set_option linter.unusedVariables false
open Go.RowKit nam exp jb

def u8V (t : Nat) : Value := .int .u8 (t : Int)
theorem info_u8 : (Tryd.prog.info? 5).map (fun i => (i.zero, i.size, i.bytes)) = some (some (.int .u8 0), 1, 1) := by kernel_rfl
theorem own_u8 {w : World} {B : Nat} {v : Value} {l : List Nat} (h : w.ownsRow B 5 1 v l.length (l.map u8V)) : ∃ a c, v = .slice a l.length c ∧ (0 < l.length → ∃ g, a = some ⟨g, 0, none⟩ ∧ ∀ i (hi : i < l.length), w.cell? ⟨g, i, none⟩ = some (.int .u8 (l[i] : Int))) := by
  rcases own_cases h with ⟨rfl, h0⟩ | ⟨g, cap, rfl, _, _, _, _, hc⟩
  · exact ⟨none, 0, by rw [h0], fun h1 => by omega⟩
  · exact ⟨_, cap, rfl, fun _ => ⟨g, rfl, fun i hi => hc i _ (by simp [hi, u8V])⟩⟩
theorem rty_zero {o : Nat} {l : List Nat} (h : 0 ∈ l) : rty o l = 0 := by unfold rty; rw [if_pos h]
theorem rty_one {o : Nat} {l : List Nat} (h : ¬ 0 ∈ l) (ho : o ≤ 4) : rty o l = 1 := by unfold rty; rw [if_neg h, if_pos ho]
theorem rty_sum {o : Nat} {l : List Nat} (h : ¬ 0 ∈ l) (ho : o = 5 ∨ (7 ≤ o ∧ o ≤ 11)) : rty o l = if allO l = 1 then 1 else 0 := by unfold rty; rw [if_neg h, if_neg (by omega), if_pos ho]
theorem rty_bool {o : Nat} {l : List Nat} (h : ¬ 0 ∈ l) (ho : o = 6 ∨ o = 16 ∨ o = 17) : rty o l = if allO l = 2 then 2 else 0 := by unfold rty; rw [if_neg h, if_neg (by omega), if_neg (by omega), if_pos ho]
theorem rty_less {o : Nat} {l : List Nat} (h : ¬ 0 ∈ l) (ho : o = 12 ∨ o = 13) : rty o l = if allO l = 1 then 2 else 0 := by unfold rty; rw [if_neg h, if_neg (by omega), if_neg (by omega), if_neg (by omega), if_pos ho]
theorem rty_eq {o : Nat} {l : List Nat} (h : ¬ 0 ∈ l) (ho : o = 14 ∨ o = 15) : rty o l = if allO l ≠ 3 then 2 else 0 := by unfold rty; rw [if_neg h, if_neg (by omega), if_neg (by omega), if_neg (by omega), if_neg (by omega), if_pos ho]
theorem rty_if {o : Nat} {l : List Nat} (h : ¬ 0 ∈ l) (ho : o = 18) : rty o l = if l.getD 0 0 = 2 ∧ l.getD 1 0 = l.getD 2 0 then l.getD 1 0 else 0 := by unfold rty; rw [if_neg h, if_neg (by omega), if_neg (by omega), if_neg (by omega), if_neg (by omega), if_neg (by omega)]
theorem allO_le {l : List Nat} (h : ∀ t ∈ l, t ≤ 2) : allO l ≤ 3 := by
  cases l with
  | nil => simp [allO]
  | cons a l =>
    have key : ∀ (l : List Nat) (a : Nat), a ≤ 3 → (∀ t ∈ l, t ≤ 2) → l.foldl (fun a t => if a = t then t else 3) a ≤ 3 := by
      intro l
      induction l with
      | nil => intro a ha _; exact ha
      | cons b l ih =>
        intro a ha hl
        rw [List.foldl_cons]
        refine ih _ ?_ (fun t ht => hl t (by simp [ht]))
        split
        · have := hl b (by simp); omega
        · omega
    exact key l a (by have := h a (by simp); omega) (fun t ht => h t (by simp [ht]))
theorem below_drewN (w : World) (q : Nat) : Below w.heap.size w (w.drewN q) := ⟨rfl, rfl, rfl, Nat.le_refl _, fun _ _ => rfl⟩
set_option maxHeartbeats 3200000 in
set_option maxRecDepth 1000000 in
theorem rof_any : ∀ (s : Nat), s ≤ 1000000 → ∀ (x : Ex), x.size ≤ s → ∀ (va : Value) (w : World), Fit x → Lies w Any va x.args →
    Calls Tryd.prog 96 #[exV x va] w fun e w' => e = .returned (.int .u8 (x.ty : Int)) ∧ Below w.heap.size w w' := by
  obtain ⟨i0, hi0, hz0, hz1, hz2⟩ := info_parts info_u8
  intro s
  induction s with
  | zero => intro _ x hx; have := size_pos x; omega
  | succ s ih =>
    intro hs x hx va w hfit hla
    obtain ⟨aa, ca, rfl, hfx⟩ := hla.form
    obtain ⟨N, hN⟩ : ∃ N, w.heap.size = N := ⟨_, rfl⟩
    obtain ⟨W, hW⟩ : ∃ W, w.alloc (.cells #[.int .u8 (x.op : Int), .int .i64 x.n, .slice aa x.args.length ca] 50) = W := ⟨_, rfl⟩
    have hwb : Below w.heap.size w W := by rw [← hW]; exact below_made _ _
    obtain ⟨c0, c1, c2⟩ := box_cells hW
    rw [hN] at c0 c1 c2
    have HB := Lib.hid hwb; have HX := Lib.hid hfx
    have HTY := Lib.hid (rty_ty hfit)
    have har := fits_ar ((fit_eq x).1 hfit).1
    have HAR := Lib.hid har
    have hlen : (x.args.length : Int) ≤ 1000000 := by have := sizes_len x.args; have := size_eq x; omega
    have HTL := Lib.hid (tys_len x.args)
    have HTM := Lib.hid (tys_map x.args)
    have HIH : Hid (∀ k (hk : k < x.args.length) (v : Value) (w' : World), Lies w' Any v x.args[k].args → Calls Tryd.prog 96 #[exV x.args[k] v] w' fun e w'' => e = .returned (.int .u8 (x.args[k].ty : Int)) ∧ Below w'.heap.size w' w'') := Lib.hid (fun k hk v w' h => ih (by omega) x.args[k] (by have := size_arg (List.getElem_mem hk); omega) v w' (((fit_eq x).1 hfit).2 _ (List.getElem_mem hk)) h)
    obtain ⟨r, hr⟩ : ∃ b, x.ty = b := ⟨_, rfl⟩
    rw [hr] at HTY ⊢
    obtain ⟨TS, hTS⟩ : ∃ l, tys x.args = l := ⟨_, rfl⟩
    rw [hTS] at HTY HTL HTM
    have HSM : Hid (∀ t ∈ TS, t ≤ 2) := Lib.hid (fun t ht => by
      rw [HTM.out] at ht
      obtain ⟨y, _, rfl⟩ := List.mem_map.1 ht
      exact ty_small y)
    have hsz0 : ∀ o : Obj, W.heap.size ≤ (W.alloc o).heap.size := fun o => by simp
    unfold exV
    clear hla hfx hwb hs hx ih hr hTS hfit har hsz0
    go_enter Tryd.func96, Tryd.ntmps96
    go_wp2_with fail
    go_loopg [3, 4] x.args.length (fun g v3 v4 wr => ∃ k : Nat, k + g = x.args.length ∧ v4 = .int .i64 (k : Int) ∧ wr.ownsRow W.heap.size 5 1 v3 k ((TS.take k).map u8V) ∧ Below W.heap.size W wr)
    case atStart => exact ⟨0, by omega, rfl, World.ownsRow_nil _ _ _ _, Below.refl _ _⟩
    case round =>
      rename World => wr
      obtain ⟨k, hk, rfl, hr, hb⟩ := hrel
      have HR := Lib.hid hr; have HBR := Lib.hid hb
      have c2r := cell_on c2 hb
      by_cases hk' : k < x.args.length
      · have hkn : (k : Int) < (x.args.length : Int) := by omega
        obtain ⟨b1, rfl, hat⟩ := HX.out (by omega)
        obtain ⟨a1, d1, p0, p1, p2, hlp, -⟩ := ((hat k hk').below (HB.out.trans (hb.mono HB.out.size))).cells
        have HC := Lib.hid (HIH.out k hk' _ wr hlp)
        have hkt : k < TS.length := by rw [HTL.out]; exact hk'
        have hTk : TS[k] = x.args[k].ty := by
          have : TS[k]? = (x.args.map Ex.ty)[k]? := by rw [HTM.out]
          rw [List.getElem?_eq_getElem hkt, List.getElem?_map, List.getElem?_eq_getElem hk'] at this
          simpa using this
        have HTK : Hid ((TS.take (k + 1)).map u8V = (TS.take k).map u8V ++ [u8V x.args[k].ty]) := Lib.hid (by rw [List.take_succ_eq_append_getElem hkt, List.map_append, hTk]; rfl)
        obtain ⟨Y, hY⟩ : ∃ Y, x.args[k] = Y := ⟨_, rfl⟩
        rw [hY] at p0 p1 p2 HC HTK
        obtain ⟨T, hT⟩ : ∃ T, Y.ty = T := ⟨_, rfl⟩
        rw [hT] at HC HTK
        unfold exV at HC
        clear hr hb hat hlp hY hT hkt hTk
        go_wp2_with fail
        refine HC.out.mono ?_
        rintro e w2 ⟨rfl, hb2⟩
        have HO := Lib.hid (own_below' HR.out hb2)
        have HL := Lib.hid (HBR.out.trans (hb2.mono HBR.out.size))
        have HSZ : Hid (∀ o, W.heap.size ≤ (w2.alloc o).heap.size) := Lib.hid (fun o => by rw [World.size_alloc]; have := HL.out.size; omega)
        clear hb2
        go_wp2_with (at_builtin; refine wpList_append_own _ rfl (.tmp 14) (.tmp 21) 76 rfl W.heap.size 5 i0 (.int .u8 0) 1 1 Tryd.underlying76 hi0 hz0 hz1 hz2 rfl (by decide) _ _ _ rfl (HO.out.alloc _) ⟨_, 0, none⟩ 1 1 [.int .u8 (T : Int)] rfl rfl (cell_one_new _ _ _) (by simp [Value.oneCell']) (by unfold maxLen; omega) (by omega) (HSZ.out _) ?_)
        intro v' w3 k4 g4 _
        have HM : Hid (w3.ownsRow W.heap.size 5 1 v' (k + 1) ((TS.take (k + 1)).map u8V) ∧ Below W.heap.size W w3) := Lib.hid (by
          refine ⟨by rw [HTK.out, List.map_take]; exact k4, ?_⟩
          exact (HL.out.alloc HL.out.size _).grown g4 (by rw [World.size_alloc]; have := HL.out.size; omega) (fun j hj => (HO.out.lt j hj).1))
        clear k4 g4
        go_wp2
        go_roundg (gk - 1)
        case measure => omega
        case rel => exact ⟨k + 1, by omega, by go_num, HM.out.1, HM.out.2⟩
      · have hkn : ¬ (k : Int) < (x.args.length : Int) := by omega
        have htk : TS.take k = TS := List.take_of_length_le (by rw [HTL.out]; omega)
        obtain rfl : k = TS.length := by rw [HTL.out]; omega
        rw [htk] at hr
        obtain ⟨at', ct', rfl, hcells⟩ := own_u8 hr
        have HCS := Lib.hid hcells
        have HFB := Lib.hid (HB.out.trans (hb.mono HB.out.size))
        have c0r := cell_on c0 hb
        obtain ⟨nt, hnt⟩ : ∃ n, TS.length = n := ⟨_, rfl⟩
        have HNT := Lib.hid hnt
        have hnt1 : (nt : Int) ≤ 1000000 := by rw [← hnt, HTL.out]; exact hlen
        have hnt3 : nt ≤ 3 ∧ (arL.getD x.op 0).toNat = nt := by
          have h1 := HAR.out
          rw [← HTL.out, hnt] at h1
          exact ⟨by
            have h2 : ∀ o, o ≤ 18 → (arL.getD o 0).toNat ≤ 3 := by
              intro o ho
              have hc : o = 0 ∨ o = 1 ∨ o = 2 ∨ o = 3 ∨ o = 4 ∨ o = 5 ∨ o = 6 ∨ o = 7 ∨ o = 8 ∨ o = 9 ∨ o = 10 ∨ o = 11 ∨ o = 12 ∨ o = 13 ∨ o = 14 ∨ o = 15 ∨ o = 16 ∨ o = 17 ∨ o = 18 := by omega
              rcases hc with rfl | rfl | rfl | rfl | rfl | rfl | rfl | rfl | rfl | rfl | rfl | rfl | rfl | rfl | rfl | rfl | rfl | rfl | rfl <;> decide
            have := h2 x.op h1.2.1
            omega, h1.2.2⟩
        have HN3 := Lib.hid hnt3
        have hkn2 : ¬ (nt : Int) < (x.args.length : Int) := by rw [← hnt]; exact hkn
        rw [hnt]
        clear hr hb htk hcells hnt hnt3 hlen hkn
        go_wp2_with fail
        go_loopg [5, 6] nt (fun g v5 v6 w2 => ∃ i : Nat, i + g = nt ∧ v6 = .int .i64 (i : Int) ∧ v5 = .int .u8 (allO (TS.take i) : Int) ∧ ¬ 0 ∈ TS.take i ∧ w2 = wr)
        case atStart => exact ⟨0, by omega, rfl, by simp [allO], by simp, rfl⟩
        case round =>
          obtain ⟨i, hi, rfl, rfl, hnz, rfl⟩ := hrel
          have HNZ := Lib.hid hnz
          clear hnz
          by_cases hi' : i < nt
          · have hin : (i : Int) < (nt : Int) := by omega
            have hit : i < TS.length := by rw [HNT.out]; exact hi'
            obtain ⟨g1, rfl, hcs⟩ := HCS.out (by omega)
            have ht := hcs i hit
            have hsn : TS.take (i + 1) = TS.take i ++ [TS[i]] := List.take_succ_eq_append_getElem hit
            have hle := HSM.out _ (List.getElem_mem hit)
            have hmem := List.getElem_mem hit
            obtain ⟨T, hT⟩ : ∃ T, TS[i] = T := ⟨_, rfl⟩
            rw [hT] at ht hsn hle hmem
            have hal := allO_snoc (TS.take i) T
            rw [← hsn] at hal
            obtain ⟨A, hA⟩ : ∃ A, allO (TS.take i) = A := ⟨_, rfl⟩
            have HA := Lib.hid hA
            rw [hA] at hal ⊢
            by_cases h0 : T = 0
            · obtain rfl : r = 0 := by rw [← HTY.out]; exact rty_zero (by rw [← h0]; exact hmem)
              have hd : ((T : Int) == 0) = true := by simp [h0]
              clear hsn hle hmem hal hA h0 hT hcs hit
              go_wp2_with fail
              try rw [Exit.noGoto_ret]
              go_ret
              exact ⟨rfl, by first | exact HFB.out | (rw [← hN]; exact HFB.out)⟩
            · have hd : ((T : Int) == 0) = false := by simp [h0]
              have HNZ2 : Hid (¬ 0 ∈ TS.take (i + 1)) := Lib.hid (by
                rw [hsn, List.mem_append]
                rintro (h | h)
                · exact HNZ.out h
                · simp at h; exact h0 h.symm)
              have HAL : Hid (allO (TS.take (i + 1)) = if i = 0 then T else if A = T then T else 3) := Lib.hid (by
                rw [hal]
                by_cases hi0 : i = 0
                · rw [if_pos hi0, if_pos (by rw [hi0]; rfl)]
                · rw [if_neg hi0, if_neg (by intro h; have := congrArg List.length h; rw [List.length_take, List.length_nil] at this; omega)])
              clear hsn hle hmem hal hA h0 hT hcs hit
              by_cases hi0 : i = 0
              · have hd2 : ((i : Int) == 0) = true := by simp [hi0]
                have HAL2 : Hid (allO (TS.take (i + 1)) = T) := Lib.hid (by rw [HAL.out, if_pos hi0])
                clear hi0
                go_wp2_with fail
                go_roundg (gk - 1)
                case measure => omega
                case rel => exact ⟨i + 1, by omega, by go_num, by rw [HAL2.out], HNZ2.out, rfl⟩
              · have hd2 : ((i : Int) == 0) = false := by simp [hi0]
                by_cases hAT : A = T
                · have hd3 : ((A : Int) == (T : Int)) = true := by simp [hAT]
                  have HAL2 : Hid (allO (TS.take (i + 1)) = T) := Lib.hid (by rw [HAL.out, if_neg hi0, if_pos hAT])
                  clear hi0 hAT
                  go_wp2_with fail
                  go_roundg (gk - 1)
                  case measure => omega
                  case rel => exact ⟨i + 1, by omega, by go_num, by rw [HAL2.out], HNZ2.out, rfl⟩
                · have hd3 : ((A : Int) == (T : Int)) = false := by simp; omega
                  have HAL2 : Hid (allO (TS.take (i + 1)) = 3) := Lib.hid (by rw [HAL.out, if_neg hi0, if_neg hAT])
                  clear hi0 hAT
                  go_wp2_with fail
                  go_roundg (gk - 1)
                  case measure => omega
                  case rel => exact ⟨i + 1, by omega, by go_num, by rw [HAL2.out]; rfl, HNZ2.out, rfl⟩
          · have hin : ¬ (i : Int) < (nt : Int) := by omega
            have htk2 : TS.take i = TS := List.take_of_length_le (by rw [HNT.out]; omega)
            have hnz2 := HNZ.out
            rw [htk2] at hnz2 ⊢
            have hA3 := allO_le HSM.out
            have hop := HAR.out
            have HNZ2 := Lib.hid hnz2
            obtain ⟨A, hA⟩ : ∃ A, allO TS = A := ⟨_, rfl⟩
            have HA := Lib.hid hA
            rw [hA] at hA3 ⊢
            obtain ⟨O, hO⟩ : ∃ O, x.op = O := ⟨_, rfl⟩
            have HO := Lib.hid hO
            rw [hO] at c0r hop HTY
            have h3b := HN3.out
            rw [hO] at h3b
            have HFX : ∀ q : Nat, q = r → (Ending.returned (.int .u8 (q : Int)) = Ending.returned (.int .u8 (r : Int)) ∧ Below w.heap.size w wr) := fun q h => ⟨by rw [h], HFB.out⟩
            have HFXX := Lib.hid HFX
            have hc : O = 1 ∨ O = 2 ∨ O = 3 ∨ O = 4 ∨ O = 5 ∨ O = 6 ∨ O = 7 ∨ O = 8 ∨ O = 9 ∨ O = 10 ∨ O = 11 ∨ O = 12 ∨ O = 13 ∨ O = 14 ∨ O = 15 ∨ O = 16 ∨ O = 17 ∨ O = 18 := by omega
            have hac : A = 0 ∨ A = 1 ∨ A = 2 ∨ A = 3 := by omega
            clear htk2 hnz2 hop hA hA3 hO HFX hW c0 c1 c2 c2r
            rcases hc with rfl | rfl | rfl | rfl | rfl | rfl | rfl | rfl | rfl | rfl | rfl | rfl | rfl | rfl | rfl | rfl | rfl | rfl
            · clear hac h3b
              push_cast at c0r
              go_wp2_with fail
              try rw [Exit.noGoto_ret]
              go_ret
              exact (by first | exact HFXX.out 1 (by rw [← HTY.out, rty_one HNZ2.out (by decide)]) | (rw [← hN]; exact HFXX.out 1 (by rw [← HTY.out, rty_one HNZ2.out (by decide)])))
            · clear hac h3b
              push_cast at c0r
              go_wp2_with fail
              try rw [Exit.noGoto_ret]
              go_ret
              exact (by first | exact HFXX.out 1 (by rw [← HTY.out, rty_one HNZ2.out (by decide)]) | (rw [← hN]; exact HFXX.out 1 (by rw [← HTY.out, rty_one HNZ2.out (by decide)])))
            · clear hac h3b
              push_cast at c0r
              go_wp2_with fail
              try rw [Exit.noGoto_ret]
              go_ret
              exact (by first | exact HFXX.out 1 (by rw [← HTY.out, rty_one HNZ2.out (by decide)]) | (rw [← hN]; exact HFXX.out 1 (by rw [← HTY.out, rty_one HNZ2.out (by decide)])))
            · clear hac h3b
              push_cast at c0r
              go_wp2_with fail
              try rw [Exit.noGoto_ret]
              go_ret
              exact (by first | exact HFXX.out 1 (by rw [← HTY.out, rty_one HNZ2.out (by decide)]) | (rw [← hN]; exact HFXX.out 1 (by rw [← HTY.out, rty_one HNZ2.out (by decide)])))
            · clear h3b
              push_cast at c0r
              rcases hac with rfl | rfl | rfl | rfl
              · push_cast
                go_wp2_with fail
                try rw [Exit.noGoto_ret]
                go_ret
                exact (by first | exact HFXX.out 0 (by rw [← HTY.out, rty_sum HNZ2.out (by decide), HA.out]; rfl) | (rw [← hN]; exact HFXX.out 0 (by rw [← HTY.out, rty_sum HNZ2.out (by decide), HA.out]; rfl)))
              · push_cast
                go_wp2_with fail
                try rw [Exit.noGoto_ret]
                go_ret
                exact (by first | exact HFXX.out 1 (by rw [← HTY.out, rty_sum HNZ2.out (by decide), HA.out]; rfl) | (rw [← hN]; exact HFXX.out 1 (by rw [← HTY.out, rty_sum HNZ2.out (by decide), HA.out]; rfl)))
              · push_cast
                go_wp2_with fail
                try rw [Exit.noGoto_ret]
                go_ret
                exact (by first | exact HFXX.out 0 (by rw [← HTY.out, rty_sum HNZ2.out (by decide), HA.out]; rfl) | (rw [← hN]; exact HFXX.out 0 (by rw [← HTY.out, rty_sum HNZ2.out (by decide), HA.out]; rfl)))
              · push_cast
                go_wp2_with fail
                try rw [Exit.noGoto_ret]
                go_ret
                exact (by first | exact HFXX.out 0 (by rw [← HTY.out, rty_sum HNZ2.out (by decide), HA.out]; rfl) | (rw [← hN]; exact HFXX.out 0 (by rw [← HTY.out, rty_sum HNZ2.out (by decide), HA.out]; rfl)))
            · clear h3b
              push_cast at c0r
              rcases hac with rfl | rfl | rfl | rfl
              · push_cast
                go_wp2_with fail
                try rw [Exit.noGoto_ret]
                go_ret
                exact (by first | exact HFXX.out 0 (by rw [← HTY.out, rty_bool HNZ2.out (by decide), HA.out]; rfl) | (rw [← hN]; exact HFXX.out 0 (by rw [← HTY.out, rty_bool HNZ2.out (by decide), HA.out]; rfl)))
              · push_cast
                go_wp2_with fail
                try rw [Exit.noGoto_ret]
                go_ret
                exact (by first | exact HFXX.out 0 (by rw [← HTY.out, rty_bool HNZ2.out (by decide), HA.out]; rfl) | (rw [← hN]; exact HFXX.out 0 (by rw [← HTY.out, rty_bool HNZ2.out (by decide), HA.out]; rfl)))
              · push_cast
                go_wp2_with fail
                try rw [Exit.noGoto_ret]
                go_ret
                exact (by first | exact HFXX.out 2 (by rw [← HTY.out, rty_bool HNZ2.out (by decide), HA.out]; rfl) | (rw [← hN]; exact HFXX.out 2 (by rw [← HTY.out, rty_bool HNZ2.out (by decide), HA.out]; rfl)))
              · push_cast
                go_wp2_with fail
                try rw [Exit.noGoto_ret]
                go_ret
                exact (by first | exact HFXX.out 0 (by rw [← HTY.out, rty_bool HNZ2.out (by decide), HA.out]; rfl) | (rw [← hN]; exact HFXX.out 0 (by rw [← HTY.out, rty_bool HNZ2.out (by decide), HA.out]; rfl)))
            · clear h3b
              push_cast at c0r
              rcases hac with rfl | rfl | rfl | rfl
              · push_cast
                go_wp2_with fail
                try rw [Exit.noGoto_ret]
                go_ret
                exact (by first | exact HFXX.out 0 (by rw [← HTY.out, rty_sum HNZ2.out (by decide), HA.out]; rfl) | (rw [← hN]; exact HFXX.out 0 (by rw [← HTY.out, rty_sum HNZ2.out (by decide), HA.out]; rfl)))
              · push_cast
                go_wp2_with fail
                try rw [Exit.noGoto_ret]
                go_ret
                exact (by first | exact HFXX.out 1 (by rw [← HTY.out, rty_sum HNZ2.out (by decide), HA.out]; rfl) | (rw [← hN]; exact HFXX.out 1 (by rw [← HTY.out, rty_sum HNZ2.out (by decide), HA.out]; rfl)))
              · push_cast
                go_wp2_with fail
                try rw [Exit.noGoto_ret]
                go_ret
                exact (by first | exact HFXX.out 0 (by rw [← HTY.out, rty_sum HNZ2.out (by decide), HA.out]; rfl) | (rw [← hN]; exact HFXX.out 0 (by rw [← HTY.out, rty_sum HNZ2.out (by decide), HA.out]; rfl)))
              · push_cast
                go_wp2_with fail
                try rw [Exit.noGoto_ret]
                go_ret
                exact (by first | exact HFXX.out 0 (by rw [← HTY.out, rty_sum HNZ2.out (by decide), HA.out]; rfl) | (rw [← hN]; exact HFXX.out 0 (by rw [← HTY.out, rty_sum HNZ2.out (by decide), HA.out]; rfl)))
            · clear h3b
              push_cast at c0r
              rcases hac with rfl | rfl | rfl | rfl
              · push_cast
                go_wp2_with fail
                try rw [Exit.noGoto_ret]
                go_ret
                exact (by first | exact HFXX.out 0 (by rw [← HTY.out, rty_sum HNZ2.out (by decide), HA.out]; rfl) | (rw [← hN]; exact HFXX.out 0 (by rw [← HTY.out, rty_sum HNZ2.out (by decide), HA.out]; rfl)))
              · push_cast
                go_wp2_with fail
                try rw [Exit.noGoto_ret]
                go_ret
                exact (by first | exact HFXX.out 1 (by rw [← HTY.out, rty_sum HNZ2.out (by decide), HA.out]; rfl) | (rw [← hN]; exact HFXX.out 1 (by rw [← HTY.out, rty_sum HNZ2.out (by decide), HA.out]; rfl)))
              · push_cast
                go_wp2_with fail
                try rw [Exit.noGoto_ret]
                go_ret
                exact (by first | exact HFXX.out 0 (by rw [← HTY.out, rty_sum HNZ2.out (by decide), HA.out]; rfl) | (rw [← hN]; exact HFXX.out 0 (by rw [← HTY.out, rty_sum HNZ2.out (by decide), HA.out]; rfl)))
              · push_cast
                go_wp2_with fail
                try rw [Exit.noGoto_ret]
                go_ret
                exact (by first | exact HFXX.out 0 (by rw [← HTY.out, rty_sum HNZ2.out (by decide), HA.out]; rfl) | (rw [← hN]; exact HFXX.out 0 (by rw [← HTY.out, rty_sum HNZ2.out (by decide), HA.out]; rfl)))
            · clear h3b
              push_cast at c0r
              rcases hac with rfl | rfl | rfl | rfl
              · push_cast
                go_wp2_with fail
                try rw [Exit.noGoto_ret]
                go_ret
                exact (by first | exact HFXX.out 0 (by rw [← HTY.out, rty_sum HNZ2.out (by decide), HA.out]; rfl) | (rw [← hN]; exact HFXX.out 0 (by rw [← HTY.out, rty_sum HNZ2.out (by decide), HA.out]; rfl)))
              · push_cast
                go_wp2_with fail
                try rw [Exit.noGoto_ret]
                go_ret
                exact (by first | exact HFXX.out 1 (by rw [← HTY.out, rty_sum HNZ2.out (by decide), HA.out]; rfl) | (rw [← hN]; exact HFXX.out 1 (by rw [← HTY.out, rty_sum HNZ2.out (by decide), HA.out]; rfl)))
              · push_cast
                go_wp2_with fail
                try rw [Exit.noGoto_ret]
                go_ret
                exact (by first | exact HFXX.out 0 (by rw [← HTY.out, rty_sum HNZ2.out (by decide), HA.out]; rfl) | (rw [← hN]; exact HFXX.out 0 (by rw [← HTY.out, rty_sum HNZ2.out (by decide), HA.out]; rfl)))
              · push_cast
                go_wp2_with fail
                try rw [Exit.noGoto_ret]
                go_ret
                exact (by first | exact HFXX.out 0 (by rw [← HTY.out, rty_sum HNZ2.out (by decide), HA.out]; rfl) | (rw [← hN]; exact HFXX.out 0 (by rw [← HTY.out, rty_sum HNZ2.out (by decide), HA.out]; rfl)))
            · clear h3b
              push_cast at c0r
              rcases hac with rfl | rfl | rfl | rfl
              · push_cast
                go_wp2_with fail
                try rw [Exit.noGoto_ret]
                go_ret
                exact (by first | exact HFXX.out 0 (by rw [← HTY.out, rty_sum HNZ2.out (by decide), HA.out]; rfl) | (rw [← hN]; exact HFXX.out 0 (by rw [← HTY.out, rty_sum HNZ2.out (by decide), HA.out]; rfl)))
              · push_cast
                go_wp2_with fail
                try rw [Exit.noGoto_ret]
                go_ret
                exact (by first | exact HFXX.out 1 (by rw [← HTY.out, rty_sum HNZ2.out (by decide), HA.out]; rfl) | (rw [← hN]; exact HFXX.out 1 (by rw [← HTY.out, rty_sum HNZ2.out (by decide), HA.out]; rfl)))
              · push_cast
                go_wp2_with fail
                try rw [Exit.noGoto_ret]
                go_ret
                exact (by first | exact HFXX.out 0 (by rw [← HTY.out, rty_sum HNZ2.out (by decide), HA.out]; rfl) | (rw [← hN]; exact HFXX.out 0 (by rw [← HTY.out, rty_sum HNZ2.out (by decide), HA.out]; rfl)))
              · push_cast
                go_wp2_with fail
                try rw [Exit.noGoto_ret]
                go_ret
                exact (by first | exact HFXX.out 0 (by rw [← HTY.out, rty_sum HNZ2.out (by decide), HA.out]; rfl) | (rw [← hN]; exact HFXX.out 0 (by rw [← HTY.out, rty_sum HNZ2.out (by decide), HA.out]; rfl)))
            · clear h3b
              push_cast at c0r
              rcases hac with rfl | rfl | rfl | rfl
              · push_cast
                go_wp2_with fail
                try rw [Exit.noGoto_ret]
                go_ret
                exact (by first | exact HFXX.out 0 (by rw [← HTY.out, rty_sum HNZ2.out (by decide), HA.out]; rfl) | (rw [← hN]; exact HFXX.out 0 (by rw [← HTY.out, rty_sum HNZ2.out (by decide), HA.out]; rfl)))
              · push_cast
                go_wp2_with fail
                try rw [Exit.noGoto_ret]
                go_ret
                exact (by first | exact HFXX.out 1 (by rw [← HTY.out, rty_sum HNZ2.out (by decide), HA.out]; rfl) | (rw [← hN]; exact HFXX.out 1 (by rw [← HTY.out, rty_sum HNZ2.out (by decide), HA.out]; rfl)))
              · push_cast
                go_wp2_with fail
                try rw [Exit.noGoto_ret]
                go_ret
                exact (by first | exact HFXX.out 0 (by rw [← HTY.out, rty_sum HNZ2.out (by decide), HA.out]; rfl) | (rw [← hN]; exact HFXX.out 0 (by rw [← HTY.out, rty_sum HNZ2.out (by decide), HA.out]; rfl)))
              · push_cast
                go_wp2_with fail
                try rw [Exit.noGoto_ret]
                go_ret
                exact (by first | exact HFXX.out 0 (by rw [← HTY.out, rty_sum HNZ2.out (by decide), HA.out]; rfl) | (rw [← hN]; exact HFXX.out 0 (by rw [← HTY.out, rty_sum HNZ2.out (by decide), HA.out]; rfl)))
            · clear h3b
              push_cast at c0r
              rcases hac with rfl | rfl | rfl | rfl
              · push_cast
                go_wp2_with fail
                try rw [Exit.noGoto_ret]
                go_ret
                exact (by first | exact HFXX.out 0 (by rw [← HTY.out, rty_less HNZ2.out (by decide), HA.out]; rfl) | (rw [← hN]; exact HFXX.out 0 (by rw [← HTY.out, rty_less HNZ2.out (by decide), HA.out]; rfl)))
              · push_cast
                go_wp2_with fail
                try rw [Exit.noGoto_ret]
                go_ret
                exact (by first | exact HFXX.out 2 (by rw [← HTY.out, rty_less HNZ2.out (by decide), HA.out]; rfl) | (rw [← hN]; exact HFXX.out 2 (by rw [← HTY.out, rty_less HNZ2.out (by decide), HA.out]; rfl)))
              · push_cast
                go_wp2_with fail
                try rw [Exit.noGoto_ret]
                go_ret
                exact (by first | exact HFXX.out 0 (by rw [← HTY.out, rty_less HNZ2.out (by decide), HA.out]; rfl) | (rw [← hN]; exact HFXX.out 0 (by rw [← HTY.out, rty_less HNZ2.out (by decide), HA.out]; rfl)))
              · push_cast
                go_wp2_with fail
                try rw [Exit.noGoto_ret]
                go_ret
                exact (by first | exact HFXX.out 0 (by rw [← HTY.out, rty_less HNZ2.out (by decide), HA.out]; rfl) | (rw [← hN]; exact HFXX.out 0 (by rw [← HTY.out, rty_less HNZ2.out (by decide), HA.out]; rfl)))
            · clear h3b
              push_cast at c0r
              rcases hac with rfl | rfl | rfl | rfl
              · push_cast
                go_wp2_with fail
                try rw [Exit.noGoto_ret]
                go_ret
                exact (by first | exact HFXX.out 0 (by rw [← HTY.out, rty_less HNZ2.out (by decide), HA.out]; rfl) | (rw [← hN]; exact HFXX.out 0 (by rw [← HTY.out, rty_less HNZ2.out (by decide), HA.out]; rfl)))
              · push_cast
                go_wp2_with fail
                try rw [Exit.noGoto_ret]
                go_ret
                exact (by first | exact HFXX.out 2 (by rw [← HTY.out, rty_less HNZ2.out (by decide), HA.out]; rfl) | (rw [← hN]; exact HFXX.out 2 (by rw [← HTY.out, rty_less HNZ2.out (by decide), HA.out]; rfl)))
              · push_cast
                go_wp2_with fail
                try rw [Exit.noGoto_ret]
                go_ret
                exact (by first | exact HFXX.out 0 (by rw [← HTY.out, rty_less HNZ2.out (by decide), HA.out]; rfl) | (rw [← hN]; exact HFXX.out 0 (by rw [← HTY.out, rty_less HNZ2.out (by decide), HA.out]; rfl)))
              · push_cast
                go_wp2_with fail
                try rw [Exit.noGoto_ret]
                go_ret
                exact (by first | exact HFXX.out 0 (by rw [← HTY.out, rty_less HNZ2.out (by decide), HA.out]; rfl) | (rw [← hN]; exact HFXX.out 0 (by rw [← HTY.out, rty_less HNZ2.out (by decide), HA.out]; rfl)))
            · clear h3b
              push_cast at c0r
              rcases hac with rfl | rfl | rfl | rfl
              · push_cast
                go_wp2_with fail
                try rw [Exit.noGoto_ret]
                go_ret
                exact (by first | exact HFXX.out 2 (by rw [← HTY.out, rty_eq HNZ2.out (by decide), HA.out]; rfl) | (rw [← hN]; exact HFXX.out 2 (by rw [← HTY.out, rty_eq HNZ2.out (by decide), HA.out]; rfl)))
              · push_cast
                go_wp2_with fail
                try rw [Exit.noGoto_ret]
                go_ret
                exact (by first | exact HFXX.out 2 (by rw [← HTY.out, rty_eq HNZ2.out (by decide), HA.out]; rfl) | (rw [← hN]; exact HFXX.out 2 (by rw [← HTY.out, rty_eq HNZ2.out (by decide), HA.out]; rfl)))
              · push_cast
                go_wp2_with fail
                try rw [Exit.noGoto_ret]
                go_ret
                exact (by first | exact HFXX.out 2 (by rw [← HTY.out, rty_eq HNZ2.out (by decide), HA.out]; rfl) | (rw [← hN]; exact HFXX.out 2 (by rw [← HTY.out, rty_eq HNZ2.out (by decide), HA.out]; rfl)))
              · push_cast
                go_wp2_with fail
                try rw [Exit.noGoto_ret]
                go_ret
                exact (by first | exact HFXX.out 0 (by rw [← HTY.out, rty_eq HNZ2.out (by decide), HA.out]; rfl) | (rw [← hN]; exact HFXX.out 0 (by rw [← HTY.out, rty_eq HNZ2.out (by decide), HA.out]; rfl)))
            · clear h3b
              push_cast at c0r
              rcases hac with rfl | rfl | rfl | rfl
              · push_cast
                go_wp2_with fail
                try rw [Exit.noGoto_ret]
                go_ret
                exact (by first | exact HFXX.out 2 (by rw [← HTY.out, rty_eq HNZ2.out (by decide), HA.out]; rfl) | (rw [← hN]; exact HFXX.out 2 (by rw [← HTY.out, rty_eq HNZ2.out (by decide), HA.out]; rfl)))
              · push_cast
                go_wp2_with fail
                try rw [Exit.noGoto_ret]
                go_ret
                exact (by first | exact HFXX.out 2 (by rw [← HTY.out, rty_eq HNZ2.out (by decide), HA.out]; rfl) | (rw [← hN]; exact HFXX.out 2 (by rw [← HTY.out, rty_eq HNZ2.out (by decide), HA.out]; rfl)))
              · push_cast
                go_wp2_with fail
                try rw [Exit.noGoto_ret]
                go_ret
                exact (by first | exact HFXX.out 2 (by rw [← HTY.out, rty_eq HNZ2.out (by decide), HA.out]; rfl) | (rw [← hN]; exact HFXX.out 2 (by rw [← HTY.out, rty_eq HNZ2.out (by decide), HA.out]; rfl)))
              · push_cast
                go_wp2_with fail
                try rw [Exit.noGoto_ret]
                go_ret
                exact (by first | exact HFXX.out 0 (by rw [← HTY.out, rty_eq HNZ2.out (by decide), HA.out]; rfl) | (rw [← hN]; exact HFXX.out 0 (by rw [← HTY.out, rty_eq HNZ2.out (by decide), HA.out]; rfl)))
            · clear h3b
              push_cast at c0r
              rcases hac with rfl | rfl | rfl | rfl
              · push_cast
                go_wp2_with fail
                try rw [Exit.noGoto_ret]
                go_ret
                exact (by first | exact HFXX.out 0 (by rw [← HTY.out, rty_bool HNZ2.out (by decide), HA.out]; rfl) | (rw [← hN]; exact HFXX.out 0 (by rw [← HTY.out, rty_bool HNZ2.out (by decide), HA.out]; rfl)))
              · push_cast
                go_wp2_with fail
                try rw [Exit.noGoto_ret]
                go_ret
                exact (by first | exact HFXX.out 0 (by rw [← HTY.out, rty_bool HNZ2.out (by decide), HA.out]; rfl) | (rw [← hN]; exact HFXX.out 0 (by rw [← HTY.out, rty_bool HNZ2.out (by decide), HA.out]; rfl)))
              · push_cast
                go_wp2_with fail
                try rw [Exit.noGoto_ret]
                go_ret
                exact (by first | exact HFXX.out 2 (by rw [← HTY.out, rty_bool HNZ2.out (by decide), HA.out]; rfl) | (rw [← hN]; exact HFXX.out 2 (by rw [← HTY.out, rty_bool HNZ2.out (by decide), HA.out]; rfl)))
              · push_cast
                go_wp2_with fail
                try rw [Exit.noGoto_ret]
                go_ret
                exact (by first | exact HFXX.out 0 (by rw [← HTY.out, rty_bool HNZ2.out (by decide), HA.out]; rfl) | (rw [← hN]; exact HFXX.out 0 (by rw [← HTY.out, rty_bool HNZ2.out (by decide), HA.out]; rfl)))
            · clear h3b
              push_cast at c0r
              rcases hac with rfl | rfl | rfl | rfl
              · push_cast
                go_wp2_with fail
                try rw [Exit.noGoto_ret]
                go_ret
                exact (by first | exact HFXX.out 0 (by rw [← HTY.out, rty_bool HNZ2.out (by decide), HA.out]; rfl) | (rw [← hN]; exact HFXX.out 0 (by rw [← HTY.out, rty_bool HNZ2.out (by decide), HA.out]; rfl)))
              · push_cast
                go_wp2_with fail
                try rw [Exit.noGoto_ret]
                go_ret
                exact (by first | exact HFXX.out 0 (by rw [← HTY.out, rty_bool HNZ2.out (by decide), HA.out]; rfl) | (rw [← hN]; exact HFXX.out 0 (by rw [← HTY.out, rty_bool HNZ2.out (by decide), HA.out]; rfl)))
              · push_cast
                go_wp2_with fail
                try rw [Exit.noGoto_ret]
                go_ret
                exact (by first | exact HFXX.out 2 (by rw [← HTY.out, rty_bool HNZ2.out (by decide), HA.out]; rfl) | (rw [← hN]; exact HFXX.out 2 (by rw [← HTY.out, rty_bool HNZ2.out (by decide), HA.out]; rfl)))
              · push_cast
                go_wp2_with fail
                try rw [Exit.noGoto_ret]
                go_ret
                exact (by first | exact HFXX.out 0 (by rw [← HTY.out, rty_bool HNZ2.out (by decide), HA.out]; rfl) | (rw [← hN]; exact HFXX.out 0 (by rw [← HTY.out, rty_bool HNZ2.out (by decide), HA.out]; rfl)))
            · clear hac
              have hn3 : nt = 3 := by have := h3b.2; simp [arL] at this; omega
              have hl3 : TS.length = 3 := by rw [HNT.out]; exact hn3
              obtain ⟨g1, rfl, hcs⟩ := HCS.out (by omega)
              have t0 := hcs 0 (by omega)
              have t1 := hcs 1 (by omega)
              have t2 := hcs 2 (by omega)
              have HIF := Lib.hid (rty_if (o := 18) HNZ2.out rfl)
              have e0 : TS.getD 0 0 = TS[0] := by rw [List.getD_eq_getElem?_getD, List.getElem?_eq_getElem (by omega)]; rfl
              have e1 : TS.getD 1 0 = TS[1] := by rw [List.getD_eq_getElem?_getD, List.getElem?_eq_getElem (by omega)]; rfl
              have e2 : TS.getD 2 0 = TS[2] := by rw [List.getD_eq_getElem?_getD, List.getElem?_eq_getElem (by omega)]; rfl
              rw [e0, e1, e2] at HIF
              generalize TS[0] = T0 at t0 HIF
              generalize TS[1] = T1 at t1 HIF
              generalize TS[2] = T2 at t2 HIF
              have hi3 : (3 : Int) ≤ (nt : Int) := by omega
              obtain rfl : nt = 3 := hn3
              clear hcs e0 e1 e2 h3b hl3
              push_cast at c0r
              by_cases h0 : T0 = 2
              · have hd0 : ((T0 : Int) == 2) = true := by simp; omega
                by_cases h1 : T1 = T2
                · have hd1 : ((T1 : Int) == (T2 : Int)) = true := by simp; omega
                  have HF : Hid (T1 = r) := Lib.hid (by rw [← HTY.out, HIF.out, if_pos ⟨h0, h1⟩])
                  clear h0 h1
                  go_wp2_with fail
                  go_quiet (fail)
                  go_wp2_with fail
                  try rw [Exit.noGoto_ret]
                  go_ret
                  exact ⟨by rw [← HF.out]; try rfl, by first | exact HFB.out.trans ((below_drewN _ _).mono HFB.out.size) | (rw [← hN]; exact HFB.out.trans ((below_drewN _ _).mono HFB.out.size))⟩
                · have hd1 : ((T1 : Int) == (T2 : Int)) = false := by simp; omega
                  have HF : Hid (0 = r) := Lib.hid (by rw [← HTY.out, HIF.out, if_neg (fun h => h1 h.2)])
                  clear h0 h1
                  go_wp2_with fail
                  go_quiet (fail)
                  go_wp2_with fail
                  try rw [Exit.noGoto_ret]
                  go_ret
                  exact ⟨by rw [← HF.out]; try rfl, by first | exact HFB.out.trans ((below_drewN _ _).mono HFB.out.size) | (rw [← hN]; exact HFB.out.trans ((below_drewN _ _).mono HFB.out.size))⟩
              · have hd0 : ((T0 : Int) == 2) = false := by simp; omega
                have HF : Hid (0 = r) := Lib.hid (by rw [← HTY.out, HIF.out, if_neg (fun h => h0 h.1)])
                clear h0
                go_wp2_with fail
                go_quiet (fail)
                go_wp2_with fail
                try rw [Exit.noGoto_ret]
                go_ret
                exact ⟨by rw [← HF.out]; try rfl, by first | exact HFB.out.trans ((below_drewN _ _).mono HFB.out.size) | (rw [← hN]; exact HFB.out.trans ((below_drewN _ _).mono HFB.out.size))⟩
end Go.Proofs.YtnelfokfgnikfaaDoor.rf
