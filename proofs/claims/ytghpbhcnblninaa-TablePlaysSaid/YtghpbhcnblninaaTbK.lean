/- What Keys answers: all keys, in order; maps.Keys, slices.Collect and sort.Slice by the library's contracts. -/
import Derived.Test.YtghpbhcnblninaaTbC
import Derived.Test.YtghpbhcnblninaaCs
import Derived.Lib.SlKeysI
import Derived.Lib.SortBridge
import Derived.Sort.LotA
import Derived.Deep.QuietTactic
namespace Go.Proofs.Ytghpbhcnblninaa.tbl
set_option linter.unusedSimpArgs false
set_option linter.unusedVariables false
open Go.RowKit
attribute [local go_sem ↓] Go.wp_at_zero Go.wp_at_succ
open Go.Proofs.Ytghpbhcnblninaa.grp (gof gof_in fits fits_wf IRow intV below_on' below_made ret_bool rem_twice rem_in ret_int)

/-- The map's keys are the table's. -/
theorem TabM.keys {w : World} {b : Nat} {L : Rows} (h : TabM w b L) (hL : Good L) : ∃ D, w.ownsMap Try.prog 2 RH b L.length D ∧ Maps.size D = L.length ∧ (∀ k, fits k → CellAt w D L k) ∧ (L.map Prod.fst).Perm (intKeys D) := by
  obtain ⟨D, ho, hs, hD⟩ := h
  refine ⟨D, ho, hs, hD, ?_⟩
  have hwf := intKeys_wf ho Try.underlying2
  obtain ⟨es, hes, hpw, _⟩ := ho.entries key64
  obtain ⟨es', hes', hko⟩ := ho.keysOf
  obtain rfl : es = es' := by rw [hes] at hes'; simpa using hes'
  have hki : ∀ p ∈ es, ∃ x, p.1 = .int .i64 x := fun p hp => by obtain ⟨v, hv⟩ := hko p hp; obtain ⟨x, _, hx, _⟩ := Maps.keyOf_i64 Try.underlying2 hv; exact ⟨x, hx⟩
  have hnd : (L.map Prod.fst).Nodup := by
    have := hL.ord
    unfold Ord at this
    exact List.pairwise_map.2 (this.imp (fun h => less_ne h))
  subst hes
  refine perm_intKeys hpw hki hnd (fun x => ?_)
  by_cases hx : fits x
  · have h1 := has_look (hD x hx)
    unfold kl at h1
    rw [h1]
    constructor
    · intro hm
      obtain ⟨p, hp, rfl⟩ := List.mem_map.1 hm
      rw [look_mem hL.ord hp]; rfl
    · intro hm
      obtain ⟨c, hc⟩ := Option.isSome_iff_exists.1 hm
      exact List.mem_map.2 ⟨_, mem_look hc, rfl⟩
  · constructor
    · intro hm
      obtain ⟨p, hp, rfl⟩ := List.mem_map.1 hm
      exact absurd (hL.key p hp) hx
    · intro hm
      exfalso
      obtain ⟨p, hp, hpk⟩ := List.any_eq_true.1 hm
      have e := WideAt.sameKey_eq hpk
      have hin : x ∈ intKeys (DataW.map es) := List.mem_map.2 ⟨p, hp, by rw [e]; rfl⟩
      exact hx (fits_wf (hwf x hin))
theorem swo_less : Sort.SWO lessB where
  irrefl := less_self
  trans _ _ _ h k := less_trans h k
  ntrans x y z h k := by
    cases hxz : lessB x z with
    | false => rfl
    | true =>
      rcases less_tri x y with h1 | h1 | h1
      · rw [h] at h1; cases h1
      · subst h1; rw [k] at hxz; cases hxz
      · have := less_trans h1 hxz; rw [k] at this; cases this
/-- Sorted, they are the table's keys in order. -/
theorem sorted_keys {L : Rows} (hL : Good L) {d d' : Array Int} (hd : d.toList.Perm (L.map Prod.fst)) (hp : Sort.PermIn 0 d.size d d') (hs : Sort.SortedIn lessB 0 d.size d') : d'.toList = L.map Prod.fst := by
  have h := Sort.sorted_unique_holds (lt := lessB) swo_less (fun x y h1 h2 => by
    rcases less_tri x y with h3 | h3 | h3
    · rw [h1] at h3; cases h3
    · exact h3
    · rw [h2] at h3; cases h3) d d' hp hs
  have e : d'.toList = d.toList.mergeSort fun x y => !lessB y x := by rw [← h]
  have tr : ∀ a b c : Int, (!lessB b a) = true → (!lessB c b) = true → (!lessB c a) = true := fun a b c h1 h2 => by
    simp only [Bool.not_eq_true'] at *
    exact swo_less.ntrans _ _ _ h2 h1
  have to : ∀ a b : Int, (!lessB b a || !lessB a b) = true := fun a b => by
    cases hab : lessB a b with
    | false => simp
    | true => rw [less_asymm hab]; rfl
  rw [e]
  refine List.Perm.eq_of_pairwise (le := fun x y => (!lessB y x) = true) (fun a b _ _ h1 h2 => ?_) (List.pairwise_mergeSort tr to _) ?_ ((List.mergeSort_perm _ _).trans hd)
  · simp only [Bool.not_eq_true'] at h1 h2
    rcases less_tri a b with h3 | h3 | h3
    · rw [h2] at h3; cases h3
    · exact h3
    · rw [h1] at h3; cases h3
  · refine List.pairwise_map.2 (hL.ord.imp (fun h => ?_))
    simp only [less_asymm h, Bool.not_false]
/-- group.Of of whatever number. -/
theorem of_all (k : Int) (w : World) : Calls Try.prog 35 #[.int .i64 k] w fun e w' => e = .returned (.int .i64 (gof k)) ∧ w' = w := by
  have HT : Hid ((k.tmod 8 + 8) % 8 = gof k) := Lib.hid (by rw [← rem_twice, Int.tmod_eq_emod_of_nonneg (a := k.tmod 8 + 8) (by have := rem_in k; omega)])
  obtain ⟨r1, r2, -⟩ := rem_in k
  obtain ⟨r, hr⟩ : ∃ r, k.tmod 8 = r := ⟨_, rfl⟩
  rw [hr] at HT r1 r2
  go_enter Try.func35, Try.ntmps35
  go_wp2_with fail
  go_ret
  exact ⟨ret_int HT.out, rfl⟩
theorem ahead_all (a b : Int) (w : World) : Calls Try.prog 39 #[.int .i64 a, .int .i64 b] w fun e w' => e = .returned (.bool (lessB a b)) ∧ w' = w := by
  have HA := Lib.hid (of_all a w)
  have HB := Lib.hid (of_all b w)
  have HL : Hid (lessB a b = (decide (gof a < gof b) || (decide (gof a = gof b) && decide (a < b)))) := Lib.hid rfl
  obtain ⟨x, hx⟩ : ∃ x, gof a = x := ⟨_, rfl⟩
  obtain ⟨y, hy⟩ : ∃ y, gof b = y := ⟨_, rfl⟩
  rw [hx] at HA HL
  rw [hy] at HB HL
  rw [HL.out]
  clear HL hx hy
  by_cases hxy : x = y
  · subst hxy
    have h1 : (x != x) = false := by simp
    go_enter Try.func39, Try.ntmps39
    go_wp2_with fail
    refine HA.out.mono ?_
    rintro e w1 ⟨rfl, rfl⟩
    go_wp2_with fail
    refine HB.out.mono ?_
    rintro e w1 ⟨rfl, rfl⟩
    go_wp2_with fail
    go_ret
    exact ⟨ret_bool (by simp), rfl⟩
  · have h1 : (x != y) = true := by simp [hxy]
    go_enter Try.func39, Try.ntmps39
    go_wp2_with fail
    refine HA.out.mono ?_
    rintro e w1 ⟨rfl, rfl⟩
    go_wp2_with fail
    refine HB.out.mono ?_
    rintro e w1 ⟨rfl, rfl⟩
    go_wp2_with fail
    go_ret
    exact ⟨ret_bool (by simp [hxy]), rfl⟩
set_option maxHeartbeats 2000000 in
theorem less_any (blk off c Bs size : Nat) (W : World) (G : Nat → Int) (hs : W.cell? ⟨Bs, 0, none⟩ = some (.slice (some ⟨blk, off, none⟩) size c))
    (hc : ∀ t, t < size → W.cell? ⟨blk, off + t, none⟩ = some (.int .i64 (G t))) (i j : Nat) (hi : i < size) (hj : j < size) :
    Calls Try.prog 47 #[.int .i64 i, .int .i64 j, .pointer (some ⟨Bs, 0, none⟩)] W fun e w' => e = .returned (.bool (lessB (G i) (G j))) ∧ ∃ q, w' = W.drewN q := by
  have ci := hc i hi
  have cj := hc j hj
  go_enter Try.func47, Try.ntmps47
  go_wp2_with fail
  go_quiet ((go_at_call 39; exact Calls.quiet_of_same (ahead_all _ _ _)))
  go_wp2_with fail
  go_ret
  exact ⟨rfl, nq, rfl⟩
theorem mkeys_any (b : Nat) (w : World) : Calls Try.prog 45 #[.map (some b)] w fun e w' => e = .returned (.func (.func 61) #[] #[.pointer (some ⟨w.heap.size, 0, none⟩)]) ∧ w' = w.alloc (.cells #[.map (some b)] 65) :=
  (callsIn_wide (n := 5)).1 (AnyZI.keys_in Try.laysZI7 Fence.wide 5 trivial rfl (some b) w)
theorem collect_any {W : World} {b Bm n : Nat} {D : DataW Value} (hB : Bm < W.heap.size) (hm : W.cell? ⟨Bm, 0, none⟩ = some (.map (some b))) (ho : W.ownsMap Try.prog 2 RH b n D) (hsz : Maps.size D ≤ 1000000) :
    Calls Try.prog 44 #[.func (.func 61) #[] #[.pointer (some ⟨Bm, 0, none⟩)]] W fun e w' => ∃ (v : Value) (ss : List Int), e = .returned v ∧ ss.Perm (intKeys D) ∧
      w'.ownsRow W.heap.size 2 1 v ss.length (ss.map intV) ∧ (v = .slice none 0 0 ↔ ss = []) ∧ Below W.heap.size W w' := by
  have hseq : SeqGives Fence.wide 3 Try.prog 61 #[.pointer (some ⟨Bm, 0, none⟩)] encZ (fun ss => ss.Perm (intKeys D)) (Maps.size D) W :=
    AnyZI.keys_gives (ρ := Try.laysZI10_ren) { Try.laysZI10 with } Fence.wide _ trivial rfl (by omega) Bm b n D W hB hm ho
  exact (callsIn_wide (n := 5)).1 (AnyZI.collect_in Try.laysZI8 Fence.wide 5 trivial trivial rfl (by omega) 61 #[.pointer (some ⟨Bm, 0, none⟩)] trivial (enters_of Try.func61 (by kernel_rfl) rfl) _ _ (by unfold maxLen; omega) (by omega) W hseq)
end Go.Proofs.Ytghpbhcnblninaa.tbl
