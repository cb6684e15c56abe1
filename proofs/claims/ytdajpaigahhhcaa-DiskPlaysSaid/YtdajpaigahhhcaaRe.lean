/- The reference's Change. -/
import Derived.Test.YtdajpaigahhhcaaRm
import Derived.Deep.DeepCutAuto
import Derived.Deep.QuietTactic
import Derived.BigQuiet
namespace Go.Proofs.Ytdajpaigahhhcaa.dsk
set_option linter.unusedSimpArgs false
set_option linter.unusedVariables false
open Go.RowKit

theorem belowN {B : Nat} {a w : World} (h : Below B a w) (q : Nat) : Below B a (w.drewN q) := ⟨h.os, h.tape, h.output, h.size, h.block⟩
theorem rleft_q {x : D} {W : World} {G : Nat → Prop} {r : Nat} {lo : Value} (h : Rf W G r x.room x.off x.left x.now x.sure lo x.loose) (hok : x.Ok) {v : Int} (hv : x.room' = v) (nq : Nat) :
    Calls Try.prog 24 #[ptr r 0] (W.drewN nq) fun e w' => e = .returned (.int .i64 v) ∧ w' = W.drewN nq :=
  (rleft_at hv (W.drewN nq) G r ⟨lo, h.below (belowN (Below.refl _ _) nq), hok⟩).mono fun e w' ⟨he, hw⟩ => ⟨he, hw.symm⟩
def Bad3 (K F N : Int) : Prop := F < 0 ∨ 15 < F ∨ (K = 3 ∧ (N < 0 ∨ 15 < N ∨ N = F))
instance (K F N : Int) : Decidable (Bad3 K F N) := by unfold Bad3; infer_instance
def Full (x : D) (K : Int) (s : ByteArray) : Prop := K = 1 ∧ x.room' < s.size
instance (x : D) (K : Int) (s : ByteArray) : Decidable (Full x K s) := by unfold Full; infer_instance
def Far (x : D) (K F N : Int) : Prop := K = 2 ∧ (N < 0 ∨ ((x.now F.toNat).size : Int) < N)
instance (x : D) (K F N : Int) : Decidable (Far x K F N) := by unfold Far; infer_instance
theorem full_one {x : D} {s : ByteArray} {v : Int} (h : ∀ _ : Unit, x.room' = v) : decide (Full x 1 s) = decide (v < (s.size : Int)) :=
  decide_eq_decide.2 ⟨fun h2 => by have := h2.2; rw [h ()] at this; exact this, fun h2 => ⟨rfl, by rw [h ()]; exact h2⟩⟩
theorem far_size {x : D} {n : Nat} {N : Int} {t : ByteArray} (h : ∀ _ : Unit, x.now n = t) (h0 : 0 ≤ N) : decide (Far x 2 n N) = decide ((t.size : Int) < N) :=
  decide_eq_decide.2 ⟨fun h2 => by
    rcases h2.2 with h3 | h3
    · omega
    · rw [Int.toNat_natCast, h ()] at h3; exact h3, fun h2 => ⟨rfl, .inr (by rw [Int.toNat_natCast, h ()]; exact h2)⟩⟩
theorem chg_gone {x x1 : D} {E1 : Int} (hop : x.op = (E1, x1)) (h0 : E1 ≠ 0) (c : Chg) : x.chg c = (E1, x1) := by
  unfold D.chg; rw [hop, if_neg h0]
theorem chg_fine {x x1 : D} (hop : x.op = (0, x1)) (c : Chg) : x.chg c = (0, { x1 with loose := x.loose ++ [c] }) := by
  unfold D.chg; rw [hop, if_pos rfl]
theorem rf_op {w : World} {G : Nat → Prop} {r : Nat} {x x1 : D} {E1 : Int} {lo : Value} (hop : x.op = (E1, x1)) (hok : x.Ok) (h : Rf w G r x1.room x1.off x1.left x.now x.sure lo x.loose) : IsRef w G r x1 := by
  have e : x1 = x.op.2 := by rw [hop]
  have h1 : x1.now = x.now := by rw [e]; exact D.op_now x
  have h2 : x1.sure = x.sure := by rw [e]; exact D.op_sure x
  have h3 : x1.loose = x.loose := by rw [e]; exact D.op_loose x
  exact ⟨lo, by rw [h1, h2, h3]; exact h, by rw [e]; exact D.op_ok hok⟩
theorem post_of {w W w3 : World} {G : Nat → Prop} {r : Nat} {x1 : D} (hb : Below w.heap.size w W) (ho : Only (· = r) W w3) (hr : IsRef w3 G r x1) (hl : ∀ k, G k → k < w.heap.size) : PostR G r x1 w w3 := by
  obtain ⟨lo, h1, h2⟩ := hr
  have hs : w.heap.size ≤ w3.heap.size := Nat.le_trans hb.size ho.size
  exact ⟨⟨lo, h1.mono (fun k hk => .inl hk) (grow_lt hl hs), h2⟩, (Only.of_below hb).then (ho.mono fun k hk => by rw [hk]; exact h1.gr)⟩
theorem own_form'' {w : World} {B e size n : Nat} {v : Value} {xs : List Value} (h : w.ownsRow B e size v n xs) (hn : 0 < n) : ∃ g c, v = .slice (some ⟨g, 0, none⟩) n c := by
  rcases h.2 with ⟨rfl, rfl⟩ | ⟨g, cap, cur, rfl, _⟩
  · omega
  · exact ⟨_, _, rfl⟩
theorem chg_ones {L : List Chg} : ∀ u ∈ L.flatMap chgCells, u.oneCell' = true := fun u hu => by
  obtain ⟨c, _, hc⟩ := List.mem_flatMap.1 hu
  cases c <;> simp [chgCells] at hc <;> rcases hc with rfl | rfl | rfl | rfl <;> rfl
/-- The change stands among the loose ones. -/
theorem change_last {w we w3 w4 W5 V : World} {G : Nat → Prop} {r : Nat} {x x1 : D} {c : Chg} {v9 lo : Value} {cells : List Value} (hx : IsRef w G r x) (hc : ok x.room x.now c ∧ chgCells c = cells) (hbe : Below w.heap.size w we) (hd : RopDone we w3 G r x1 x.now x.sure lo x.loose) (hb4 : Below w3.heap.size w3 w4)
    (h5 : Rf W5 G r x1.room x1.off x1.left (doIt x.now c) x.sure lo x.loose ∧ Only (· = r) w4 W5) (hV : Below W5.heap.size W5 V) (h9 : V.ownsRow W5.heap.size 83 4 v9 (0 + x.loose.length + 1) ([] ++ x.loose.flatMap chgCells ++ cells)) (hop : x.op = (0, x1)) (hok : x.Ok) :
    V.cell? ⟨r, 33, none⟩ = some lo ∧ V.frozen? ⟨r, 33, none⟩ = false ∧ PostR G r { x1 with loose := x.loose ++ [c] } w (V.setCell ⟨r, 33, none⟩ v9) := by
  have hr5 := h5.1.below hV
  have e1 : x1 = x.op.2 := by rw [hop]
  have hs3 : x1.sure = x.sure := by rw [e1]; exact D.op_sure x
  have hs1 : w.heap.size ≤ W5.heap.size := Nat.le_trans hbe.size (Nat.le_trans (Nat.le_of_eq hd.size.symm) (Nat.le_trans hb4.size h5.2.size))
  have hs2 : w.heap.size ≤ V.heap.size := Nat.le_trans hs1 hV.size
  have hown : V.ownsRow 0 83 4 v9 (x.loose ++ [c]).length ((x.loose ++ [c]).flatMap chgCells) := by
    rw [List.length_append, List.flatMap_append, List.flatMap_singleton, hc.2]
    rw [Nat.zero_add, List.nil_append] at h9
    exact own_mono h9 (Nat.zero_le _)
  have hgr := hx.lt h5.1.gr
  have hG : ∀ k, Grow G w V k → k < V.heap.size := grow_lt (fun k hk => hx.lt hk) hs2
  have hr6 : Rf V (Grow G w V) r x1.room x1.off x1.left (doIt x.now c) x.sure lo x.loose := hr5.mono (fun k hk => .inl hk) hG
  have hr7 := hr6.setLo hown fun k hk => .inr (by have := own_lt h9 hk; omega)
  have hnow : ({ x1 with loose := x.loose ++ [c] } : D).now = doIt x.now c := by
    show run x1.sure (x.loose ++ [c]) = _
    rw [hs3, run_snoc]; rfl
  have hsz : (V.setCell ⟨r, 33, none⟩ v9).heap.size = V.heap.size := by simp
  have hok2 : ({ x1 with loose := x.loose ++ [c] } : D).Ok := by
    have := D.chg_ok hok hc.1
    rwa [chg_fine hop c] at this
  refine ⟨hr5.cell33, hr5.row.frozen 33, ⟨v9, ?_, hok2⟩, ?_⟩
  · rw [hnow, hs3]
    exact hr7.mono (fun k hk => by
      rcases hk with hk | hk
      · exact .inl hk
      · exact .inr (by rw [hsz]; exact hk)) fun k hk => by
      rw [hsz]
      rcases hk with hk | hk
      · have := hx.lt hk; omega
      · rw [hsz] at hk; exact hk.2
  · have h1 : Only (· = r) we w3 := hd.only
    have h2 : Only (· = r) we W5 := (h1.on hb4).then h5.2
    have h3 : Only (· = r) we (V.setCell ⟨r, 33, none⟩ v9) := (h2.on hV).then (Only.setCell V r 33 v9)
    exact (Only.of_below hbe).then (h3.mono fun k hk => by rw [hk]; exact h5.1.gr)
/-- What the reference says of a change. -/
def D.say (x : D) (K F N : Int) (s : ByteArray) (c : Chg) : Int × D :=
  if x.off = true then (50, x) else if Bad3 K F N then (2, x) else if Full x K s then (7, x) else if Far x K F N then (5, x) else x.chg c
set_option maxHeartbeats 3200000 in
set_option maxRecDepth 100000 in
theorem rchange (x x2 : D) (E K F N : Int) (s : ByteArray) (c : Chg) (h : x.say K F N s c = (E, x2)) (hlen : x.loose.length ≤ 300) (hmade : ¬ Bad3 K F N → ¬ Full x K s → ¬ Far x K F N → ok x.room x.now c ∧ chgCells c = [.int .i64 K, .int .i64 F, .int .i64 N, .string s] ∧ ∀ W : World, Calls Try.prog 49 #[.agg (row16 (strs x.now)).toArray, .agg #[.int .i64 K, .int .i64 F, .int .i64 N, .string s], .int .i64 s.size] W fun e w' => e = .returned (.agg (row16 (strs (doIt x.now c))).toArray) ∧ Below W.heap.size W w') (w : World) (G : Nat → Prop) (r : Nat) (hx : IsRef w G r x) :
    Calls Try.prog 47 #[ptr r 0, .agg #[.int .i64 K, .int .i64 F, .int .i64 N, .string s]] w fun e w' => e = .returned (.int .i64 E) ∧ PostR G r x2 w w' := by
  obtain ⟨lo, hr, hok⟩ := id hx
  obtain ⟨W, hW⟩ : ∃ W, w.alloc (.cells #[.int .i64 K, .int .i64 F, .int .i64 N, .string s] 83) = W := ⟨_, rfl⟩
  have hbW : Below w.heap.size w W := by rw [← hW]; exact below_alloc _ _
  have hb : W.heap[w.heap.size]? = some (.cells #[.int .i64 K, .int .i64 F, .int .i64 N, .string s] 83 (0, 0)) := by rw [← hW]; exact heap_alloc_new w _
  have hrW := hr.below hbW
  have h34 := hrW.cell34
  have HX := Lib.hid hx
  have HRW := Lib.hid hrW
  have HBW := Lib.hid hbW
  have HB := Lib.hid hb
  have HW := Lib.hid hW
  have HOK := Lib.hid hok
  have HC : Hid (∀ W', Below W.heap.size W W' → W'.cell? ⟨w.heap.size, 0, none⟩ = some (.int .i64 K) ∧ W'.cell? ⟨w.heap.size, 1, none⟩ = some (.int .i64 F) ∧ W'.cell? ⟨w.heap.size, 2, none⟩ = some (.int .i64 N) ∧ W'.cell? ⟨w.heap.size, 3, none⟩ = some (.string s)) := Lib.hid fun W' hb' => by
    have hb2 := (hb'.block _ (Array.getElem?_eq_some_iff.1 hb).1).trans hb
    exact ⟨by rw [cell_of_row _ _ _ _ _ _ hb2]; rfl, by rw [cell_of_row _ _ _ _ _ _ hb2]; rfl, by rw [cell_of_row _ _ _ _ _ _ hb2]; rfl, by rw [cell_of_row _ _ _ _ _ _ hb2]; rfl⟩
  have HLEN := Lib.hid hlen
  have HMD := Lib.hid hmade
  clear hx hr hrW hbW hb hW hok hlen hmade
  unfold D.say at h
  by_cases ho : x.off = true
  · rw [if_pos ho] at h
    obtain ⟨rfl, rfl⟩ := Prod.mk.inj h
    rw [ho] at h34
    clear h
    go_enter Try.func47, Try.ntmps47
    go_wp2_with (rw [HW.out])
    go_ret
    exact ⟨rfl, PostR.same HX.out HBW.out⟩
  · rw [if_neg ho] at h
    have HO := Lib.hid ho
    rw [show x.off = false by simpa using ho] at h34
    have HH := Lib.hid (fun (_ : Unit) => h)
    clear ho h
    obtain ⟨hc0, hc1, hc2, hc3⟩ := HC.out W (Below.refl _ _)
    go_enter Try.func47, Try.ntmps47
    go_upto_region 3 with (rw [HW.out])
    go_cut [39] (fun t wx => t = .bool (decide (Bad3 K F N)) ∧ wx = W)
    case first =>
      by_cases h1 : F < 0
      · go_wp2
        go_meet
        exact ⟨congrArg Value.bool (decide_eq_true (p := Bad3 K F N) (Or.inl h1)).symm, rfl⟩
      · by_cases h2 : 15 < F
        · have h1' : (0 : Int) ≤ F := by omega
          go_wp2
          go_meet
          exact ⟨congrArg Value.bool (decide_eq_true (p := Bad3 K F N) (Or.inr (Or.inl h2))).symm, rfl⟩
        · have h1' : (0 : Int) ≤ F := by omega
          have h2' : F ≤ 15 := by omega
          by_cases h3 : K = 3
          · subst h3
            by_cases h4 : N < 0
            · clear h1 h2
              go_wp2
              go_meet
              exact ⟨congrArg Value.bool (decide_eq_true (p := Bad3 3 F N) (Or.inr (Or.inr ⟨rfl, Or.inl h4⟩))).symm, rfl⟩
            · by_cases h5 : 15 < N
              · have h4' : (0 : Int) ≤ N := by omega
                clear h1 h2 h4
                go_wp2
                go_meet
                exact ⟨congrArg Value.bool (decide_eq_true (p := Bad3 3 F N) (Or.inr (Or.inr ⟨rfl, Or.inr (Or.inl h5)⟩))).symm, rfl⟩
              · have h4' : (0 : Int) ≤ N := by omega
                have h5' : N ≤ 15 := by omega
                by_cases h6 : N = F
                · have h6' : (N == F) = true := by simp [h6]
                  have H6 := Lib.hid h6
                  clear h1 h2 h4 h5 h6
                  go_wp2
                  go_meet
                  exact ⟨congrArg Value.bool (decide_eq_true (p := Bad3 3 F N) (Or.inr (Or.inr ⟨rfl, Or.inr (Or.inr H6.out)⟩))).symm, rfl⟩
                · have h6' : (N == F) = false := by simp [h6]
                  have H6 := Lib.hid (show ¬ Bad3 3 F N by unfold Bad3; omega)
                  clear h1 h2 h4 h5 h6
                  go_wp2
                  go_meet
                  exact ⟨congrArg Value.bool ((show _ = false by simp; omega).trans (decide_eq_false H6.out).symm), rfl⟩
          · have h3' : (K == 3) = false := by simp [h3]
            have H6 := Lib.hid (show ¬ Bad3 K F N by unfold Bad3; omega)
            clear h1 h2 h3
            go_wp2
            go_meet
            exact ⟨congrArg Value.bool ((show _ = false by simp; omega).trans (decide_eq_false H6.out).symm), rfl⟩
    case rest =>
      obtain ⟨ht, rfl⟩ := hcut
      obtain ⟨b3, hb3⟩ : ∃ b3, decide (Bad3 K F N) = b3 := ⟨_, rfl⟩
      rw [hb3] at ht
      subst ht
      cases b3
      case true =>
        have HH3 := Lib.hid (fun (_ : Unit) => (show (2, x) = (E, x2) by have := HH.out (); rwa [if_pos (of_decide_eq_true hb3)] at this))
        clear hb3
        go_wp2
        go_ret
        obtain ⟨rfl, rfl⟩ := Prod.mk.inj (HH3.out ())
        exact ⟨rfl, PostR.same HX.out HBW.out⟩
      have HN3 := Lib.hid (of_decide_eq_false hb3)
      have HH3 := Lib.hid (fun (_ : Unit) => (show (if Full x K s then (7, x) else if Far x K F N then (5, x) else x.chg c) = (E, x2) by have := HH.out (); rwa [if_neg (of_decide_eq_false hb3)] at this))
      clear hb3
      go_upto_region 5 with fail
      go_cut [50] (fun t wx => t = .bool (decide (Full x K s)) ∧ Below wc.heap.size wc wx)
      case first =>
        by_cases h1 : K = 1
        · subst h1
          obtain ⟨v, hv⟩ : ∃ v, x.room' = v := ⟨_, rfl⟩
          have HL := Lib.hid (fun nq => rleft_q HRW.out HOK.out hv nq)
          have HV := Lib.hid (fun (_ : Unit) => hv)
          clear hv
          go_quiet (first | (go_at_call 24; refine Calls.quiet_of_same (HL.out _)))
          go_wp2
          go_meet
          exact ⟨congrArg Value.bool (full_one HV.out).symm, belowN (Below.refl _ _) _⟩
        · have h1' : (K == 1) = false := by simp [h1]
          have H1 := Lib.hid (show ¬ Full x K s from fun h => h1 h.1)
          clear h1
          go_quiet (fail)
          go_wp2
          go_meet
          exact ⟨congrArg Value.bool (decide_eq_false H1.out).symm, belowN (Below.refl _ _) _⟩
      case rest =>
        obtain ⟨ht, hb5⟩ := hcut
        rename World => wd
        obtain ⟨b5, hf5⟩ : ∃ b5, decide (Full x K s) = b5 := ⟨_, rfl⟩
        rw [hf5] at ht
        subst ht
        have HB5 := Lib.hid hb5
        have h34' := (HRW.out.below hb5).cell34
        clear hb5
        cases b5
        case true =>
          have HH5 := Lib.hid (fun (_ : Unit) => (show (7, x) = (E, x2) by have := HH3.out (); rwa [if_pos (of_decide_eq_true hf5)] at this))
          clear hf5
          go_wp2
          go_ret
          obtain ⟨rfl, rfl⟩ := Prod.mk.inj (HH5.out ())
          exact ⟨rfl, PostR.same HX.out (HBW.out.trans (HB5.out.mono HBW.out.size))⟩
        have HH5 := Lib.hid (fun (_ : Unit) => (show (if Far x K F N then (5, x) else x.chg c) = (E, x2) by have := HH3.out (); rwa [if_neg (of_decide_eq_false hf5)] at this))
        have HN5 := Lib.hid (of_decide_eq_false hf5)
        clear hf5
        obtain ⟨Fn, rfl⟩ : ∃ n : Nat, F = n := ⟨F.toNat, by have := HN3.out; unfold Bad3 at this; omega⟩
        have HF16 := Lib.hid (show Fn < 16 by have := HN3.out; unfold Bad3 at this; omega)
        obtain ⟨hd0, hd1, hd2, hd3⟩ := HC.out wd HB5.out
        obtain ⟨t, ht⟩ : ∃ t, x.now Fn = t := ⟨_, rfl⟩
        have hdt := (HRW.out.below HB5.out).cellNow HF16.out
        rw [ht] at hdt
        have HT := Lib.hid (fun (_ : Unit) => ht)
        have hi0 : (0 : Int) ≤ (Fn : Int) := by omega
        have hi1 : (Fn : Int) < 16 := by have := HF16.out; omega
        clear ht hc0 hc1 hc2 hc3
        go_upto_region 7 with fail
        go_cut [71] (fun t wx => t = .bool (decide (Far x K Fn N)) ∧ Below wd.heap.size wd wx)
        case first =>
          by_cases h1 : K = 2
          · subst h1
            by_cases h2 : N < 0
            · go_quiet (fail)
              go_wp2
              go_meet
              exact ⟨congrArg Value.bool (decide_eq_true (p := Far x 2 Fn N) ⟨rfl, Or.inl h2⟩).symm, belowN (Below.refl _ _) _⟩
            · have h2' : (0 : Int) ≤ N := by omega
              clear h2
              go_quiet (fail)
              go_wp2
              go_meet
              exact ⟨congrArg Value.bool (((by rw [decide_eq_false (show ¬ N < 0 by omega), Bool.false_or]) : (decide (N < 0) || decide ((t.size : Int) < N)) = decide ((t.size : Int) < N)).trans (far_size HT.out h2').symm), belowN (Below.refl _ _) _⟩
          · have h1' : (K == 2) = false := by simp [h1]
            have H1 := Lib.hid (show ¬ Far x K Fn N from fun h => h1 h.1)
            clear h1
            go_quiet (fail)
            go_wp2
            go_meet
            exact ⟨congrArg Value.bool (decide_eq_false H1.out).symm, belowN (Below.refl _ _) _⟩
        case rest =>
          obtain ⟨ht, hb7⟩ := hcut
          rename World => we
          obtain ⟨b7, hf7⟩ : ∃ b7, decide (Far x K Fn N) = b7 := ⟨_, rfl⟩
          rw [hf7] at ht
          subst ht
          have HB7 := Lib.hid (HB5.out.trans (hb7.mono HB5.out.size))
          clear hb7
          cases b7
          case true =>
            have HH7 := Lib.hid (fun (_ : Unit) => (show (5, x) = (E, x2) by have := HH5.out (); rwa [if_pos (of_decide_eq_true hf7)] at this))
            clear hf7
            go_wp2
            go_ret
            obtain ⟨rfl, rfl⟩ := Prod.mk.inj (HH7.out ())
            exact ⟨rfl, PostR.same HX.out (HBW.out.trans (HB7.out.mono HBW.out.size))⟩
          have HH7 := Lib.hid (fun (_ : Unit) => (show x.chg c = (E, x2) by have := HH5.out (); rwa [if_neg (of_decide_eq_false hf7)] at this))
          have HN7 := Lib.hid (of_decide_eq_false hf7)
          have HC2 := Lib.hid (And.intro (HMD.out HN3.out HN5.out HN7.out).1 (HMD.out HN3.out HN5.out HN7.out).2.1)
          have HMADE := Lib.hid (HMD.out HN3.out HN5.out HN7.out).2.2
          clear hf7 hd0 hd1 hd2 hd3 hdt hi0 hi1
          obtain ⟨E1, x1, hop⟩ : ∃ E1 x1, x.op = (E1, x1) := ⟨_, _, rfl⟩
          have HOP := Lib.hid (fun (_ : Unit) => hop)
          have HRE := Lib.hid (HRW.out.below HB7.out)
          clear hop
          go_wp2_with fail
          refine (rop_at (HOP.out ()) HOK.out _ G r x.now x.sure lo x.loose HRE.out).mono ?_
          rintro e w3 ⟨rfl, hdone⟩
          have HD := Lib.hid hdone
          clear hdone
          by_cases h0 : E1 = 0
          · subst h0
            go_wp2_with fail
            have HH8 := Lib.hid (fun (_ : Unit) => (chg_fine (HOP.out ()) c).symm.trans (HH7.out ()))
            obtain ⟨he8, hx8⟩ := Prod.mk.inj (HH8.out ())
            subst he8 hx8
            have HCB := Lib.hid (show w3.heap[w.heap.size]? = some (.cells #[.int .i64 K, .int .i64 Fn, .int .i64 N, .string s] 83 (0, 0)) by
              have h1 := (HB7.out.block _ (Array.getElem?_eq_some_iff.1 HB.out).1).trans HB.out
              rw [HD.out.only.block _ (Array.getElem?_eq_some_iff.1 h1).1 (fun e => by
                have := HX.out.lt HRE.out.gr
                omega)]
              exact h1)
            have HS12 : Hid (∀ W', Below w3.heap.size w3 W' → W'.rangeAt r 1 (row16 (strs x.now)) ∧ W'.cell? ⟨w.heap.size, 3, none⟩ = some (.string s) ∧ W'.heap[w.heap.size]? = some (.cells #[.int .i64 K, .int .i64 Fn, .int .i64 N, .string s] 83 (0, 0))) := Lib.hid fun W' hb' => by
              have hb2 := (hb'.block _ (Array.getElem?_eq_some_iff.1 HCB.out).1).trans HCB.out
              exact ⟨(HD.out.rf.below hb').rangeNow, by rw [cell_of_row _ _ _ _ _ _ hb2]; rfl, hb2⟩
            refine wp_region_peel2 (by kernel_rfl) (by simp only [List.dropLast_cons_cons, List.dropLast_singleton]; exact rfl) rfl (by kernel_rfl) ?_
            refine wpAny_of_held (S := fun W => W.rangeAt r 1 (row16 (strs x.now)) ∧ W.cell? ⟨w.heap.size, 3, none⟩ = some (.string s) ∧ W.heap[w.heap.size]? = some (.cells #[.int .i64 K, .int .i64 Fn, .int .i64 N, .string s] 83 (0, 0))) _ _ _ _ ?_
            have hHeld := HS12.out w3.drew (below_drew _)
            refine wpAnyH_take (i := 0) (v := ?v1) rfl (by kernel_rfl) (by kernel_rfl) (by kernel_rfl) (fun _ _ _ h => h) (Or.inl ⟨by rfl, ?hy1⟩) (by assumption) ?rest1
            case hy1 => (intro w0 hSw; (try dsimp only at hSw); go_simp; try with_reducible rfl)
            try simp only [Act.put, List.getElem_toArray, List.getElem_cons_zero, List.getElem_cons_succ, List.setIfInBounds_toArray, List.set_cons_zero, List.set_cons_succ]
            refine wpAnyH_take (i := 1) (v := ?v2) rfl (by kernel_rfl) (by kernel_rfl) (by kernel_rfl) (fun _ _ _ h => h) (Or.inl ⟨by rfl, ?hy2⟩) (by assumption) ?rest2
            case hy2 => (intro w0 hSw; (try dsimp only at hSw); go_simp; try with_reducible rfl)
            try simp only [Act.put, List.getElem_toArray, List.getElem_cons_zero, List.getElem_cons_succ, List.setIfInBounds_toArray, List.set_cons_zero, List.set_cons_succ]
            refine wpAnyH_take (i := 2) (v := ?v3) rfl (by kernel_rfl) (by kernel_rfl) (by kernel_rfl) (fun _ _ _ h => h) (Or.inl ⟨by rfl, ?hy3⟩) (by assumption) ?rest3
            case hy3 => (intro w0 hSw; (try dsimp only at hSw); go_simp; try with_reducible rfl)
            try simp only [Act.put, List.getElem_toArray, List.getElem_cons_zero, List.getElem_cons_succ, List.setIfInBounds_toArray, List.set_cons_zero, List.set_cons_succ]
            refine wpAnyH_take (i := 3) (v := ?v4) rfl (by kernel_rfl) (by kernel_rfl) (by kernel_rfl) (fun _ _ _ h => h) (Or.inl ⟨by rfl, ?hy4⟩) (by assumption) ?rest4
            case hy4 => (intro w0 hSw; (try dsimp only at hSw); go_simp; try with_reducible rfl)
            try simp only [Act.put, List.getElem_toArray, List.getElem_cons_zero, List.getElem_cons_succ, List.setIfInBounds_toArray, List.set_cons_zero, List.set_cons_succ]
            refine wpAnyH_take (i := 4) (v := .agg (row16 (strs x.now)).toArray) rfl (by kernel_rfl) (by kernel_rfl) (by kernel_rfl) (fun _ _ _ h => h) (yieldsIf_load_mid (by rfl) 43 (.tmp 80) rfl r 1 (by simp [Act.eval]) (row16 (strs x.now)) _ (fun W hW => hW.1) Try.underlying43 rfl (by rw [row16_length]; exact info43)) (by assumption) ?_
            try simp only [Act.put, List.getElem_toArray, List.getElem_cons_zero, List.getElem_cons_succ, List.setIfInBounds_toArray, List.set_cons_zero, List.set_cons_succ]
            refine wpAnyH_take (i := 5) (v := .agg #[.int .i64 K, .int .i64 Fn, .int .i64 N, .string s]) rfl (by kernel_rfl) (by kernel_rfl) (by kernel_rfl) (fun _ _ _ h => h) (yieldsIf_load_mid (by rfl) 83 (.tmp 3) rfl w.heap.size 0 (by simp [Act.eval]) [.int .i64 K, .int .i64 Fn, .int .i64 N, .string s] _ (fun W hW => range4 hW.2.2) Try.underlying83 rfl info83s) (by assumption) ?_
            try simp only [Act.put, List.getElem_toArray, List.getElem_cons_zero, List.getElem_cons_succ, List.setIfInBounds_toArray, List.set_cons_zero, List.set_cons_succ]
            refine wpAnyH_take (i := 6) (v := ?v7) rfl (by kernel_rfl) (by kernel_rfl) (by kernel_rfl) (fun _ _ _ h => h) (Or.inl ⟨by rfl, ?hy7⟩) (by assumption) ?rest7
            case hy7 => (intro w0 hSw; (try dsimp only at hSw); go_simp; try with_reducible rfl)
            try simp only [Act.put, List.getElem_toArray, List.getElem_cons_zero, List.getElem_cons_succ, List.setIfInBounds_toArray, List.set_cons_zero, List.set_cons_succ]
            refine wpAnyH_take (i := 7) (v := ?v8) rfl (by kernel_rfl) (by kernel_rfl) (by kernel_rfl) (fun _ _ _ h => h) (Or.inl ⟨by rfl, ?hy8⟩) (by assumption) ?rest8
            case hy8 => (intro w0 hSw; (try dsimp only at hSw); go_simp; try with_reducible rfl)
            try simp only [Act.put, List.getElem_toArray, List.getElem_cons_zero, List.getElem_cons_succ, List.setIfInBounds_toArray, List.set_cons_zero, List.set_cons_succ]
            refine wpAnyH_take (i := 8) (v := ?v9) rfl (by kernel_rfl) (by kernel_rfl) (by kernel_rfl) (fun _ _ _ h => h) (Or.inl ⟨by rfl, ?hy9⟩) (by assumption) ?rest9
            case hy9 => (intro w0 hSw; (try dsimp only at hSw); go_simp; try with_reducible rfl)
            try simp only [Act.put, List.getElem_toArray, List.getElem_cons_zero, List.getElem_cons_succ, List.setIfInBounds_toArray, List.set_cons_zero, List.set_cons_succ]
            refine wpAnyH_ready (rs := [9]) (by kernel_rfl) (by simp) ?_
            refine AllReadyH.cons rfl (fun KK hK => ?_) AllReadyH.nil
            go_simp
            go_at_call 49
            refine (HMADE.out _).mono ?_
            rintro e w4 ⟨rfl, hb4⟩
            have HB4 := Lib.hid ((below_drew w3).trans (hb4.mono (Nat.le_refl _)))
            clear hb4
            refine hK.out _ _ ?_ (fun hHeld => ?_)
            · exact HS12.out _ HB4.out
            clear hK KK
            try simp only [Act.put, List.getElem_toArray, List.getElem_cons_zero, List.getElem_cons_succ, List.setIfInBounds_toArray, List.set_cons_zero, List.set_cons_succ]
            refine wpAnyH_take (i := 10) (v := ?v10) rfl (by kernel_rfl) (by kernel_rfl) (by kernel_rfl) (fun _ _ _ h => h) (Or.inl ⟨by rfl, ?hy10⟩) (by assumption) ?rest10
            case hy10 => (intro w0 hSw; (try dsimp only at hSw); go_simp; try with_reducible rfl)
            try simp only [Act.put, List.getElem_toArray, List.getElem_cons_zero, List.getElem_cons_succ, List.setIfInBounds_toArray, List.set_cons_zero, List.set_cons_succ]
            refine wpAnyH_take (i := 11) (v := ?v11) rfl (by kernel_rfl) (by kernel_rfl) (by kernel_rfl) (fun _ _ _ h => h) (Or.inl ⟨by rfl, ?hy11⟩) (by assumption) ?rest11
            case hy11 => (intro w0 hSw; (try dsimp only at hSw); go_simp; try with_reducible rfl)
            try simp only [Act.put, List.getElem_toArray, List.getElem_cons_zero, List.getElem_cons_succ, List.setIfInBounds_toArray, List.set_cons_zero, List.set_cons_succ]
            refine wpAnyH_done (by kernel_rfl) ?_ _
            change wpList _ _ _ _ _ _
            refine store_now (HD.out.rf.below HB4.out) (f' := doIt x.now c) (.tmp 88) (.tmp 86) rfl rfl rfl (by simp [Act.eval]) (by simp [Act.eval]) ?_
            intro W5 H5
            clear hHeld
            go_wp2_with fail
            have HCB5 := Lib.hid (show W5.heap[w.heap.size]? = some (.cells #[.int .i64 K, .int .i64 Fn, .int .i64 N, .string s] 83 (0, 0)) by
              have h1 := (HB4.out.block _ (Array.getElem?_eq_some_iff.1 HCB.out).1).trans HCB.out
              rw [H5.out.2.block _ (Array.getElem?_eq_some_iff.1 h1).1 (fun e => by
                have := HX.out.lt HRE.out.gr
                omega)]
              exact h1)
            have HS13 : Hid (∀ W', Below W5.heap.size W5 W' → W'.cell? ⟨r, 33, none⟩ = some lo ∧ W'.heap[w.heap.size]? = some (.cells #[.int .i64 K, .int .i64 Fn, .int .i64 N, .string s] 83 (0, 0))) := Lib.hid fun W' hb' => by
              have hb2 := (hb'.block _ (Array.getElem?_eq_some_iff.1 HCB5.out).1).trans HCB5.out
              exact ⟨(H5.out.1.below hb').cell33, hb2⟩
            have HLO : Hid (∀ W', Below W5.heap.size W5 W' → W'.ownsRow 0 83 4 lo x.loose.length (x.loose.flatMap chgCells)) := Lib.hid fun W' hb' => (H5.out.1.below hb').own
            refine wp_region_peel2 (by kernel_rfl) (by simp only [List.dropLast_cons_cons, List.dropLast_singleton]; exact rfl) rfl (by kernel_rfl) ?_
            refine wpAny_of_held (S := fun W => W.cell? ⟨r, 33, none⟩ = some lo ∧ W.heap[w.heap.size]? = some (.cells #[.int .i64 K, .int .i64 Fn, .int .i64 N, .string s] 83 (0, 0))) _ _ _ _ ?_
            have hHeld := HS13.out W5.drew (below_drew _)
            obtain ⟨V0, hV0⟩ : ∃ V0, W5.drew = V0 := ⟨_, rfl⟩
            have HV0 := Lib.hid (show Below W5.heap.size W5 V0 by rw [← hV0]; exact below_drew _)
            rw [hV0] at hHeld ⊢
            clear hV0
            refine wpAnyH_take (i := 0) (v := ?v12) rfl (by kernel_rfl) (by kernel_rfl) (by kernel_rfl) (fun _ _ _ h => h) (Or.inl ⟨by rfl, ?hy12⟩) (by assumption) ?rest12
            case hy12 => (intro w0 hSw; (try dsimp only at hSw); go_simp; try with_reducible rfl)
            try simp only [Act.put, List.getElem_toArray, List.getElem_cons_zero, List.getElem_cons_succ, List.setIfInBounds_toArray, List.set_cons_zero, List.set_cons_succ]
            refine wpAnyH_take (i := 2) (v := ?v13) rfl (by kernel_rfl) (by kernel_rfl) (by kernel_rfl) (fun _ _ _ h => h) (Or.inl ⟨by rfl, ?hy13⟩) (by assumption) ?rest13
            case hy13 => (intro w0 hSw; (try dsimp only at hSw); go_simp; try with_reducible rfl)
            try simp only [Act.put, List.getElem_toArray, List.getElem_cons_zero, List.getElem_cons_succ, List.setIfInBounds_toArray, List.set_cons_zero, List.set_cons_succ]
            refine wpAnyH_take (i := 3) (v := ?v14) rfl (by kernel_rfl) (by kernel_rfl) (by kernel_rfl) (fun _ _ _ h => h) (Or.inl ⟨by rfl, ?hy14⟩) (by assumption) ?rest14
            case hy14 => (intro w0 hSw; (try dsimp only at hSw); go_simp; try with_reducible rfl)
            try simp only [Act.put, List.getElem_toArray, List.getElem_cons_zero, List.getElem_cons_succ, List.setIfInBounds_toArray, List.set_cons_zero, List.set_cons_succ]
            refine wpAnyH_take (i := 4) (v := ?v15) rfl (by kernel_rfl) (by kernel_rfl) (by kernel_rfl) (fun _ _ _ h => h) (Or.inl ⟨by rfl, ?hy15⟩) (by assumption) ?rest15
            case hy15 => (intro w0 hSw; (try dsimp only at hSw); go_simp; try with_reducible rfl)
            try simp only [Act.put, List.getElem_toArray, List.getElem_cons_zero, List.getElem_cons_succ, List.setIfInBounds_toArray, List.set_cons_zero, List.set_cons_succ]
            refine wpAnyH_take (i := 5) (v := ?v16) rfl (by kernel_rfl) (by kernel_rfl) (by kernel_rfl) (fun _ _ _ h => h) (Or.inl ⟨by rfl, ?hy16⟩) (by assumption) ?rest16
            case hy16 => (intro w0 hSw; (try dsimp only at hSw); go_simp; try with_reducible rfl)
            try simp only [Act.put, List.getElem_toArray, List.getElem_cons_zero, List.getElem_cons_succ, List.setIfInBounds_toArray, List.set_cons_zero, List.set_cons_succ]
            refine wpAnyH_take (i := 7) (v := .agg #[.int .i64 K, .int .i64 Fn, .int .i64 N, .string s]) rfl (by kernel_rfl) (by kernel_rfl) (by kernel_rfl) (fun _ _ _ h => h) (yieldsIf_load_mid (by rfl) 83 (.tmp 3) rfl w.heap.size 0 (by simp [Act.eval]) [.int .i64 K, .int .i64 Fn, .int .i64 N, .string s] _ (fun W hW => range4 hW.2) Try.underlying83 rfl info83s) (by assumption) ?_
            try simp only [Act.put, List.getElem_toArray, List.getElem_cons_zero, List.getElem_cons_succ, List.setIfInBounds_toArray, List.set_cons_zero, List.set_cons_succ]
            refine wpAnyH_ready (rs := [1, 8]) (by kernel_rfl) (by simp) ?_
            refine (AllReadyH.cons rfl (fun KK hK => ?_) (AllReadyH.cons rfl (fun KK hK => ?_) AllReadyH.nil))
            · go_simp
              obtain ⟨V1, hV⟩ : ∃ V1, V0.alloc (.cells #[] 83) = V1 := ⟨_, rfl⟩
              rw [hV]
              have HV1 := Lib.hid (show Below W5.heap.size W5 V1 by rw [← hV]; exact HV0.out.alloc HV0.out.size _)
              have HN1 := Lib.hid (show Below V0.heap.size V0 V1 by rw [← hV]; exact below_alloc _ _)
              have HZ1 := Lib.hid (show V1.heap.size = V0.heap.size + 1 by rw [← hV]; exact World.size_alloc _ _)
              have R11 := Lib.hid (show V1.ownsRow W5.heap.size 83 4 (.slice (some ⟨V0.heap.size, 0, none⟩) 0 0) 0 [] by rw [← hV]; exact World.ownsRow_lit V0 #[] 0 HV0.out.size (by unfold maxLen; omega) rfl)
              clear hV
              refine hK.out _ _ ?_ (fun hHeld => ?_)
              · exact HS13.out _ HV1.out
              clear hK KK
              try simp only [Act.put, List.getElem_toArray, List.getElem_cons_zero, List.getElem_cons_succ, List.setIfInBounds_toArray, List.set_cons_zero, List.set_cons_succ]
              refine wpAnyH_ready (rs := [6, 8]) (by kernel_rfl) (by simp) ?_
              refine (AllReadyH.cons rfl (fun KK hK => ?_) (AllReadyH.cons rfl (fun KK hK => ?_) AllReadyH.nil))
              · refine step_app (by rfl) (.tmp 90) (.tmp 94) (by rfl) (by rfl) (by rfl) R11.out (HLO.out _ HV1.out) chg_ones (by have := HLEN.out; omega) HV1.out.size ?_
                intro v6 V2 H6
                have HV2 := Lib.hid (HV1.out.trans (H6.out.2.2))
                have R62 := Lib.hid H6.out.1
                refine hK.out _ _ ?_ (fun hHeld => ?_)
                · exact HS13.out _ HV2.out
                clear hK KK
                try simp only [Act.put, List.getElem_toArray, List.getElem_cons_zero, List.getElem_cons_succ, List.setIfInBounds_toArray, List.set_cons_zero, List.set_cons_succ]
                refine wpAnyH_ready (rs := [8]) (by kernel_rfl) (by simp) ?_
                refine (AllReadyH.cons rfl (fun KK hK => ?_) AllReadyH.nil)
                go_simp
                obtain ⟨V3, hV⟩ : ∃ V3, V2.alloc (.cells #[.int .i64 K, .int .i64 Fn, .int .i64 N, .string s] 83) = V3 := ⟨_, rfl⟩
                rw [hV]
                have HV3 := Lib.hid (show Below W5.heap.size W5 V3 by rw [← hV]; exact HV2.out.alloc HV2.out.size _)
                have HN3 := Lib.hid (show Below V2.heap.size V2 V3 by rw [← hV]; exact below_alloc _ _)
                have HZ3 := Lib.hid (show V3.heap.size = V2.heap.size + 1 by rw [← hV]; exact World.size_alloc _ _)
                have R83 := Lib.hid (show V3.ownsRow 0 83 4 (.slice (some ⟨V2.heap.size, 0, none⟩) 1 1) 1 [.int .i64 K, .int .i64 Fn, .int .i64 N, .string s] by rw [← hV]; exact World.ownsRow_lit V2 #[.int .i64 K, .int .i64 Fn, .int .i64 N, .string s] 1 (Nat.zero_le _) (by unfold maxLen; omega) rfl)
                have R63 := Lib.hid (own_below R62.out HN3.out)
                clear hV
                refine hK.out _ _ ?_ (fun hHeld => ?_)
                · exact HS13.out _ HV3.out
                clear hK KK
                try simp only [Act.put, List.getElem_toArray, List.getElem_cons_zero, List.getElem_cons_succ, List.setIfInBounds_toArray, List.set_cons_zero, List.set_cons_succ]
                refine wpAnyH_ready (rs := [9]) (by kernel_rfl) (by simp) ?_
                refine (AllReadyH.cons rfl (fun KK hK => ?_) AllReadyH.nil)
                refine step_app (by rfl) (.tmp 95) (.tmp 97) (by rfl) (by rfl) (by rfl) R63.out R83.out (by intro u hu; simp at hu; rcases hu with rfl | rfl | rfl | rfl <;> rfl) (by have := HLEN.out; omega) HV3.out.size ?_
                intro v9 V4 H9
                have HV4 := Lib.hid (HV3.out.trans (H9.out.2.2))
                have R9 := Lib.hid H9.out.1
                obtain ⟨g9, c9, rfl⟩ := own_form'' R9.out (by omega)
                refine hK.out _ _ ?_ (fun hHeld => ?_)
                · exact HS13.out _ HV4.out
                clear hK KK
                try simp only [Act.put, List.getElem_toArray, List.getElem_cons_zero, List.getElem_cons_succ, List.setIfInBounds_toArray, List.set_cons_zero, List.set_cons_succ]
                refine wpAnyH_take (i := 10) (v := ?v18) rfl (by kernel_rfl) (by kernel_rfl) (by kernel_rfl) (fun _ _ _ h => h) (Or.inl ⟨by rfl, ?hy18⟩) (by assumption) ?rest18
                case hy18 => (intro w0 hSw; (try dsimp only at hSw); go_simp; try with_reducible rfl)
                try simp only [Act.put, List.getElem_toArray, List.getElem_cons_zero, List.getElem_cons_succ, List.setIfInBounds_toArray, List.set_cons_zero, List.set_cons_succ]
                refine wpAnyH_take (i := 11) (v := ?v19) rfl (by kernel_rfl) (by kernel_rfl) (by kernel_rfl) (fun _ _ _ h => h) (Or.inl ⟨by rfl, ?hy19⟩) (by assumption) ?rest19
                case hy19 => (intro w0 hSw; (try dsimp only at hSw); go_simp; try with_reducible rfl)
                try simp only [Act.put, List.getElem_toArray, List.getElem_cons_zero, List.getElem_cons_succ, List.setIfInBounds_toArray, List.set_cons_zero, List.set_cons_succ]
                refine wpAnyH_done (by kernel_rfl) ?_ _
                change wpList _ _ _ _ _ _
                have HZ := Lib.hid (change_last HX.out HC2.out (HBW.out.trans (HB7.out.mono HBW.out.size)) HD.out HB4.out H5.out HV4.out R9.out (HOP.out ()) HOK.out)
                have hcz := HZ.out.1
                have hfz := HZ.out.2.1
                clear hHeld
                go_wp2
                go_ret
                have hq := HZ.out.2.2
                rw [Nat.zero_add] at hq
                exact ⟨rfl, hq⟩
              · go_simp
                obtain ⟨V2, hV⟩ : ∃ V2, V1.alloc (.cells #[.int .i64 K, .int .i64 Fn, .int .i64 N, .string s] 83) = V2 := ⟨_, rfl⟩
                rw [hV]
                have HV2 := Lib.hid (show Below W5.heap.size W5 V2 by rw [← hV]; exact HV1.out.alloc HV1.out.size _)
                have HN2 := Lib.hid (show Below V1.heap.size V1 V2 by rw [← hV]; exact below_alloc _ _)
                have HZ2 := Lib.hid (show V2.heap.size = V1.heap.size + 1 by rw [← hV]; exact World.size_alloc _ _)
                have R82 := Lib.hid (show V2.ownsRow 0 83 4 (.slice (some ⟨V1.heap.size, 0, none⟩) 1 1) 1 [.int .i64 K, .int .i64 Fn, .int .i64 N, .string s] by rw [← hV]; exact World.ownsRow_lit V1 #[.int .i64 K, .int .i64 Fn, .int .i64 N, .string s] 1 (Nat.zero_le _) (by unfold maxLen; omega) rfl)
                have R12 := Lib.hid (own_below R11.out HN2.out)
                clear hV
                refine hK.out _ _ ?_ (fun hHeld => ?_)
                · exact HS13.out _ HV2.out
                clear hK KK
                try simp only [Act.put, List.getElem_toArray, List.getElem_cons_zero, List.getElem_cons_succ, List.setIfInBounds_toArray, List.set_cons_zero, List.set_cons_succ]
                refine wpAnyH_ready (rs := [6]) (by kernel_rfl) (by simp) ?_
                refine (AllReadyH.cons rfl (fun KK hK => ?_) AllReadyH.nil)
                refine step_app (by rfl) (.tmp 90) (.tmp 94) (by rfl) (by rfl) (by rfl) R12.out (HLO.out _ HV2.out) chg_ones (by have := HLEN.out; omega) HV2.out.size ?_
                intro v6 V3 H6
                have HV3 := Lib.hid (HV2.out.trans (H6.out.2.2))
                have R63 := Lib.hid H6.out.1
                have R83 := Lib.hid (R82.out.kept H6.out.2.1 (Or.inr (by intro e; have h1 : V1.heap.size = V0.heap.size := Option.some.inj e; have h2 := HZ1.out; have h3 := HZ2.out; omega)))
                refine hK.out _ _ ?_ (fun hHeld => ?_)
                · exact HS13.out _ HV3.out
                clear hK KK
                try simp only [Act.put, List.getElem_toArray, List.getElem_cons_zero, List.getElem_cons_succ, List.setIfInBounds_toArray, List.set_cons_zero, List.set_cons_succ]
                refine wpAnyH_ready (rs := [9]) (by kernel_rfl) (by simp) ?_
                refine (AllReadyH.cons rfl (fun KK hK => ?_) AllReadyH.nil)
                refine step_app (by rfl) (.tmp 95) (.tmp 97) (by rfl) (by rfl) (by rfl) R63.out R83.out (by intro u hu; simp at hu; rcases hu with rfl | rfl | rfl | rfl <;> rfl) (by have := HLEN.out; omega) HV3.out.size ?_
                intro v9 V4 H9
                have HV4 := Lib.hid (HV3.out.trans (H9.out.2.2))
                have R9 := Lib.hid H9.out.1
                obtain ⟨g9, c9, rfl⟩ := own_form'' R9.out (by omega)
                refine hK.out _ _ ?_ (fun hHeld => ?_)
                · exact HS13.out _ HV4.out
                clear hK KK
                try simp only [Act.put, List.getElem_toArray, List.getElem_cons_zero, List.getElem_cons_succ, List.setIfInBounds_toArray, List.set_cons_zero, List.set_cons_succ]
                refine wpAnyH_take (i := 10) (v := ?v20) rfl (by kernel_rfl) (by kernel_rfl) (by kernel_rfl) (fun _ _ _ h => h) (Or.inl ⟨by rfl, ?hy20⟩) (by assumption) ?rest20
                case hy20 => (intro w0 hSw; (try dsimp only at hSw); go_simp; try with_reducible rfl)
                try simp only [Act.put, List.getElem_toArray, List.getElem_cons_zero, List.getElem_cons_succ, List.setIfInBounds_toArray, List.set_cons_zero, List.set_cons_succ]
                refine wpAnyH_take (i := 11) (v := ?v21) rfl (by kernel_rfl) (by kernel_rfl) (by kernel_rfl) (fun _ _ _ h => h) (Or.inl ⟨by rfl, ?hy21⟩) (by assumption) ?rest21
                case hy21 => (intro w0 hSw; (try dsimp only at hSw); go_simp; try with_reducible rfl)
                try simp only [Act.put, List.getElem_toArray, List.getElem_cons_zero, List.getElem_cons_succ, List.setIfInBounds_toArray, List.set_cons_zero, List.set_cons_succ]
                refine wpAnyH_done (by kernel_rfl) ?_ _
                change wpList _ _ _ _ _ _
                have HZ := Lib.hid (change_last HX.out HC2.out (HBW.out.trans (HB7.out.mono HBW.out.size)) HD.out HB4.out H5.out HV4.out R9.out (HOP.out ()) HOK.out)
                have hcz := HZ.out.1
                have hfz := HZ.out.2.1
                clear hHeld
                go_wp2
                go_ret
                have hq := HZ.out.2.2
                rw [Nat.zero_add] at hq
                exact ⟨rfl, hq⟩
            · go_simp
              obtain ⟨V1, hV⟩ : ∃ V1, V0.alloc (.cells #[.int .i64 K, .int .i64 Fn, .int .i64 N, .string s] 83) = V1 := ⟨_, rfl⟩
              rw [hV]
              have HV1 := Lib.hid (show Below W5.heap.size W5 V1 by rw [← hV]; exact HV0.out.alloc HV0.out.size _)
              have HN1 := Lib.hid (show Below V0.heap.size V0 V1 by rw [← hV]; exact below_alloc _ _)
              have HZ1 := Lib.hid (show V1.heap.size = V0.heap.size + 1 by rw [← hV]; exact World.size_alloc _ _)
              have R81 := Lib.hid (show V1.ownsRow 0 83 4 (.slice (some ⟨V0.heap.size, 0, none⟩) 1 1) 1 [.int .i64 K, .int .i64 Fn, .int .i64 N, .string s] by rw [← hV]; exact World.ownsRow_lit V0 #[.int .i64 K, .int .i64 Fn, .int .i64 N, .string s] 1 (Nat.zero_le _) (by unfold maxLen; omega) rfl)
              clear hV
              refine hK.out _ _ ?_ (fun hHeld => ?_)
              · exact HS13.out _ HV1.out
              clear hK KK
              try simp only [Act.put, List.getElem_toArray, List.getElem_cons_zero, List.getElem_cons_succ, List.setIfInBounds_toArray, List.set_cons_zero, List.set_cons_succ]
              refine wpAnyH_ready (rs := [1]) (by kernel_rfl) (by simp) ?_
              refine (AllReadyH.cons rfl (fun KK hK => ?_) AllReadyH.nil)
              go_simp
              obtain ⟨V2, hV⟩ : ∃ V2, V1.alloc (.cells #[] 83) = V2 := ⟨_, rfl⟩
              rw [hV]
              have HV2 := Lib.hid (show Below W5.heap.size W5 V2 by rw [← hV]; exact HV1.out.alloc HV1.out.size _)
              have HN2 := Lib.hid (show Below V1.heap.size V1 V2 by rw [← hV]; exact below_alloc _ _)
              have HZ2 := Lib.hid (show V2.heap.size = V1.heap.size + 1 by rw [← hV]; exact World.size_alloc _ _)
              have R12 := Lib.hid (show V2.ownsRow W5.heap.size 83 4 (.slice (some ⟨V1.heap.size, 0, none⟩) 0 0) 0 [] by rw [← hV]; exact World.ownsRow_lit V1 #[] 0 HV1.out.size (by unfold maxLen; omega) rfl)
              have R82 := Lib.hid (own_below R81.out HN2.out)
              clear hV
              refine hK.out _ _ ?_ (fun hHeld => ?_)
              · exact HS13.out _ HV2.out
              clear hK KK
              try simp only [Act.put, List.getElem_toArray, List.getElem_cons_zero, List.getElem_cons_succ, List.setIfInBounds_toArray, List.set_cons_zero, List.set_cons_succ]
              refine wpAnyH_ready (rs := [6]) (by kernel_rfl) (by simp) ?_
              refine (AllReadyH.cons rfl (fun KK hK => ?_) AllReadyH.nil)
              refine step_app (by rfl) (.tmp 90) (.tmp 94) (by rfl) (by rfl) (by rfl) R12.out (HLO.out _ HV2.out) chg_ones (by have := HLEN.out; omega) HV2.out.size ?_
              intro v6 V3 H6
              have HV3 := Lib.hid (HV2.out.trans (H6.out.2.2))
              have R63 := Lib.hid H6.out.1
              have R83 := Lib.hid (R82.out.kept H6.out.2.1 (Or.inr (by intro e; have h1 : V0.heap.size = V1.heap.size := Option.some.inj e; have h2 := HZ1.out; have h3 := HZ2.out; omega)))
              refine hK.out _ _ ?_ (fun hHeld => ?_)
              · exact HS13.out _ HV3.out
              clear hK KK
              try simp only [Act.put, List.getElem_toArray, List.getElem_cons_zero, List.getElem_cons_succ, List.setIfInBounds_toArray, List.set_cons_zero, List.set_cons_succ]
              refine wpAnyH_ready (rs := [9]) (by kernel_rfl) (by simp) ?_
              refine (AllReadyH.cons rfl (fun KK hK => ?_) AllReadyH.nil)
              refine step_app (by rfl) (.tmp 95) (.tmp 97) (by rfl) (by rfl) (by rfl) R63.out R83.out (by intro u hu; simp at hu; rcases hu with rfl | rfl | rfl | rfl <;> rfl) (by have := HLEN.out; omega) HV3.out.size ?_
              intro v9 V4 H9
              have HV4 := Lib.hid (HV3.out.trans (H9.out.2.2))
              have R9 := Lib.hid H9.out.1
              obtain ⟨g9, c9, rfl⟩ := own_form'' R9.out (by omega)
              refine hK.out _ _ ?_ (fun hHeld => ?_)
              · exact HS13.out _ HV4.out
              clear hK KK
              try simp only [Act.put, List.getElem_toArray, List.getElem_cons_zero, List.getElem_cons_succ, List.setIfInBounds_toArray, List.set_cons_zero, List.set_cons_succ]
              refine wpAnyH_take (i := 10) (v := ?v22) rfl (by kernel_rfl) (by kernel_rfl) (by kernel_rfl) (fun _ _ _ h => h) (Or.inl ⟨by rfl, ?hy22⟩) (by assumption) ?rest22
              case hy22 => (intro w0 hSw; (try dsimp only at hSw); go_simp; try with_reducible rfl)
              try simp only [Act.put, List.getElem_toArray, List.getElem_cons_zero, List.getElem_cons_succ, List.setIfInBounds_toArray, List.set_cons_zero, List.set_cons_succ]
              refine wpAnyH_take (i := 11) (v := ?v23) rfl (by kernel_rfl) (by kernel_rfl) (by kernel_rfl) (fun _ _ _ h => h) (Or.inl ⟨by rfl, ?hy23⟩) (by assumption) ?rest23
              case hy23 => (intro w0 hSw; (try dsimp only at hSw); go_simp; try with_reducible rfl)
              try simp only [Act.put, List.getElem_toArray, List.getElem_cons_zero, List.getElem_cons_succ, List.setIfInBounds_toArray, List.set_cons_zero, List.set_cons_succ]
              refine wpAnyH_done (by kernel_rfl) ?_ _
              change wpList _ _ _ _ _ _
              have HZ := Lib.hid (change_last HX.out HC2.out (HBW.out.trans (HB7.out.mono HBW.out.size)) HD.out HB4.out H5.out HV4.out R9.out (HOP.out ()) HOK.out)
              have hcz := HZ.out.1
              have hfz := HZ.out.2.1
              clear hHeld
              go_wp2
              go_ret
              have hq := HZ.out.2.2
              rw [Nat.zero_add] at hq
              exact ⟨rfl, hq⟩
          · have h0' : (E1 != 0) = true := by simp [h0]
            have HH8 := Lib.hid (fun (_ : Unit) => (chg_gone (HOP.out ()) h0 c).symm.trans (HH7.out ()))
            clear h0
            go_wp2_with fail
            go_ret
            obtain ⟨rfl, rfl⟩ := Prod.mk.inj (HH8.out ())
            exact ⟨rfl, post_of (HBW.out.trans (HB7.out.mono HBW.out.size)) HD.out.only (rf_op (HOP.out ()) HOK.out HD.out.rf) fun k hk => HX.out.lt hk⟩
end Go.Proofs.Ytdajpaigahhhcaa.dsk
