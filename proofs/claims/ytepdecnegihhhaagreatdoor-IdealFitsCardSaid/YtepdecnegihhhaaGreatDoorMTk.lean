/- What Keys answers: all keys, in order; maps.Keys, slices.Collect and sort.Slice by the library's contracts. What Keys answers: the walk. .. -/
import Derived.Test.YtepdecnegihhhaaGreatDoorMTb
import Derived.Test.YtepdecnegihhhaaGreatDoorCs
import Derived.Test.YtepdecnegihhhaaGreatDoorCz
import Derived.Lib.SlKeysI
import Derived.Lib.SortBridge
import Derived.Sort.LotA
import Derived.Deep.QuietTactic
import Derived.Maps.Ext
set_option linter.unusedSimpArgs false
set_option linter.unusedVariables false
namespace Go.Proofs.YtepdecnegihhhaaGreatDoor.tbl
section
open Go.RowKit
attribute [local go_sem ↓] Go.wp_at_zero Go.wp_at_succ
open grp (gof gof_in fits fits_wf IRow intV below_on' below_made ret_bool rem_twice rem_in ret_int)
theorem TabM.keys {w : World} {b : Nat} {L : Rows} (h : TabM w b L) (hL : Good L) : ∃ D, w.ownsMap Tryz.prog 2 RH b L.length D ∧ Maps.size D = L.length ∧ (∀ k, fits k → CellAt w D L k) ∧ (L.map Prod.fst).Perm (intKeys D) := by
 obtain ⟨D, ho, hs, hD⟩ := h
 refine ⟨D, ho, hs, hD, ?_⟩
 have hwf := intKeys_wf ho Tryz.underlying2
 obtain ⟨es, hes, hpw, _⟩ := ho.entries key64
 obtain ⟨es', hes', hko⟩ := ho.keysOf
 obtain rfl : es = es' := by rw [hes] at hes'; simpa using hes'
 have hki : ∀ p ∈ es, ∃ x, p.1 = .int .i64 x := fun p hp => by obtain ⟨v, hv⟩ := hko p hp; obtain ⟨x, _, hx, _⟩ := Maps.keyOf_i64 Tryz.underlying2 hv; exact ⟨x, hx⟩
 have hnd : (L.map Prod.fst).Nodup := by
  have := hL.ord
  unfold Ord at this
  exact List.pairwise_map.2 (this.imp (fun h => less_ne h))
 subst hes
 refine perm_intKeys hpw hki hnd (fun x => ?_)
 by_cases hx : fits x
 · have h1 := has_look (hD x hx)
   unfold kl at h1
   rw [h1]
   constructor
   · intro hm
     obtain ⟨p, hp, rfl⟩ := List.mem_map.1 hm
     rw [look_mem hL.ord hp]; rfl
   · intro hm
     obtain ⟨c, hc⟩ := Option.isSome_iff_exists.1 hm
     exact List.mem_map.2 ⟨_, mem_look hc, rfl⟩
 · constructor
   · intro hm
     obtain ⟨p, hp, rfl⟩ := List.mem_map.1 hm
     exact absurd (hL.key p hp) hx
   · intro hm
     exfalso
     obtain ⟨p, hp, hpk⟩ := List.any_eq_true.1 hm
     have e := WideAt.sameKey_eq hpk
     have hin : x ∈ intKeys (DataW.map es) := List.mem_map.2 ⟨p, hp, by rw [e]; rfl⟩
     exact hx (fits_wf (hwf x hin))
theorem swo_less : Sort.SWO lessB where
 irrefl := less_self
 trans _ _ _ h k := less_trans h k
 ntrans x y z h k := by
  cases hxz : lessB x z with
  | false => rfl
  | true =>
   rcases less_tri x y with h1 | h1 | h1
   · rw [h] at h1; cases h1
   · subst h1; rw [k] at hxz; cases hxz
   · have := less_trans h1 hxz; rw [k] at this; cases this
theorem sorted_keys {L : Rows} (hL : Good L) {d d' : Array Int} (hd : d.toList.Perm (L.map Prod.fst)) (hp : Sort.PermIn 0 d.size d d') (hs : Sort.SortedIn lessB 0 d.size d') : d'.toList = L.map Prod.fst := by
 have h := Sort.sorted_unique_holds (lt := lessB) swo_less (fun x y h1 h2 => by
  rcases less_tri x y with h3 | h3 | h3
  · rw [h1] at h3; cases h3
  · exact h3
  · rw [h2] at h3; cases h3) d d' hp hs
 have e : d'.toList = d.toList.mergeSort fun x y => !lessB y x := by rw [← h]
 have tr : ∀ a b c : Int, (!lessB b a) = true → (!lessB c b) = true → (!lessB c a) = true := fun a b c h1 h2 => by
  simp only [Bool.not_eq_true'] at *
  exact swo_less.ntrans _ _ _ h2 h1
 have to : ∀ a b : Int, (!lessB b a || !lessB a b) = true := fun a b => by
  cases hab : lessB a b with
  | false => simp
  | true => rw [less_asymm hab]; rfl
 rw [e]
 refine List.Perm.eq_of_pairwise (le := fun x y => (!lessB y x) = true) (fun a b _ _ h1 h2 => ?_) (List.pairwise_mergeSort tr to _) ?_ ((List.mergeSort_perm _ _).trans hd)
 · simp only [Bool.not_eq_true'] at h1 h2
   rcases less_tri a b with h3 | h3 | h3
   · rw [h2] at h3; cases h3
   · exact h3
   · rw [h1] at h3; cases h3
 · refine List.pairwise_map.2 (hL.ord.imp (fun h => ?_))
   simp only [less_asymm h, Bool.not_false]
theorem of_all (k : Int) (w : World) : Calls Tryz.prog 68 #[.int .i64 k] w fun e w' => e = .returned (.int .i64 (gof k)) ∧ w' = w := by
 have HT : Hid ((k.tmod 8 + 8) % 8 = gof k) := Lib.hid (by rw [← rem_twice, Int.tmod_eq_emod_of_nonneg (a := k.tmod 8 + 8) (by have := rem_in k; omega)])
 obtain ⟨r1, r2, -⟩ := rem_in k
 obtain ⟨r, hr⟩ : ∃ r, k.tmod 8 = r := ⟨_, rfl⟩
 rw [hr] at HT r1 r2
 go_enter Tryz.func68, Tryz.ntmps68
 go_wp2_with fail
 go_ret
 exact ⟨ret_int HT.out, rfl⟩
theorem ahead_all (a b : Int) (w : World) : Calls Tryz.prog 35 #[.int .i64 a, .int .i64 b] w fun e w' => e = .returned (.bool (lessB a b)) ∧ w' = w := by
 have HA := Lib.hid (of_all a w)
 have HB := Lib.hid (of_all b w)
 have HL : Hid (lessB a b = (decide (gof a < gof b) || (decide (gof a = gof b) && decide (a < b)))) := Lib.hid rfl
 obtain ⟨x, hx⟩ : ∃ x, gof a = x := ⟨_, rfl⟩
 obtain ⟨y, hy⟩ : ∃ y, gof b = y := ⟨_, rfl⟩
 rw [hx] at HA HL
 rw [hy] at HB HL
 rw [HL.out]
 clear HL hx hy
 by_cases hxy : x = y
 · subst hxy
   have h1 : (x != x) = false := by simp
   go_enter Tryz.func35, Tryz.ntmps35
   go_wp2_with fail
   refine HA.out.mono ?_
   rintro e w1 ⟨rfl, rfl⟩
   go_wp2_with fail
   refine HB.out.mono ?_
   rintro e w1 ⟨rfl, rfl⟩
   go_wp2_with fail
   go_ret
   exact ⟨ret_bool (by simp), rfl⟩
 · have h1 : (x != y) = true := by simp [hxy]
   go_enter Tryz.func35, Tryz.ntmps35
   go_wp2_with fail
   refine HA.out.mono ?_
   rintro e w1 ⟨rfl, rfl⟩
   go_wp2_with fail
   refine HB.out.mono ?_
   rintro e w1 ⟨rfl, rfl⟩
   go_wp2_with fail
   go_ret
   exact ⟨ret_bool (by simp [hxy]), rfl⟩
set_option maxHeartbeats 2000000 in
theorem less_any (blk off c Bs size : Nat) (W : World) (G : Nat → Int) (hs : W.cell? ⟨Bs, 0, none⟩ = some (.slice (some ⟨blk, off, none⟩) size c))
  (hc : ∀ t, t < size → W.cell? ⟨blk, off + t, none⟩ = some (.int .i64 (G t))) (i j : Nat) (hi : i < size) (hj : j < size) :
  Calls Tryz.prog 64 #[.int .i64 i, .int .i64 j, .pointer (some ⟨Bs, 0, none⟩)] W fun e w' => e = .returned (.bool (lessB (G i) (G j))) ∧ ∃ q, w' = W.drewN q := by
 have ci := hc i hi
 have cj := hc j hj
 go_enter Tryz.func64, Tryz.ntmps64
 go_wp2_with fail
 go_quiet ((go_at_call 35; exact Calls.quiet_of_same (ahead_all _ _ _)))
 go_wp2_with fail
 go_ret
 exact ⟨rfl, nq, rfl⟩
theorem mkeys_any (b : Nat) (w : World) : Calls Tryz.prog 62 #[.map (some b)] w fun e w' => e = .returned (.func (.func 99) #[] #[.pointer (some ⟨w.heap.size, 0, none⟩)]) ∧ w' = w.alloc (.cells #[.map (some b)] 81) :=
 (callsIn_wide (n := 5)).1 (AnyZI.keys_in Tryz.laysZI7 Fence.wide 5 trivial rfl (some b) w)
theorem collect_any {W : World} {b Bm n : Nat} {D : DataW Value} (hB : Bm < W.heap.size) (hm : W.cell? ⟨Bm, 0, none⟩ = some (.map (some b))) (ho : W.ownsMap Tryz.prog 2 RH b n D) (hsz : Maps.size D ≤ 1000000) :
  Calls Tryz.prog 61 #[.func (.func 99) #[] #[.pointer (some ⟨Bm, 0, none⟩)]] W fun e w' => ∃ (v : Value) (ss : List Int), e = .returned v ∧ ss.Perm (intKeys D) ∧
   w'.ownsRow W.heap.size 2 1 v ss.length (ss.map intV) ∧ (v = .slice none 0 0 ↔ ss = []) ∧ Below W.heap.size W w' := by
 have hseq : SeqGives Fence.wide 3 Tryz.prog 99 #[.pointer (some ⟨Bm, 0, none⟩)] encZ (fun ss => ss.Perm (intKeys D)) (Maps.size D) W :=
  AnyZI.keys_gives (ρ := Tryz.laysZI10_ren) { Tryz.laysZI10 with } Fence.wide _ trivial rfl (by omega) Bm b n D W hB hm ho
 exact (callsIn_wide (n := 5)).1 (AnyZI.collect_in Tryz.laysZI8 Fence.wide 5 trivial trivial rfl (by omega) 99 #[.pointer (some ⟨Bm, 0, none⟩)] trivial (enters_of Tryz.func99 (by kernel_rfl) rfl) _ _ (by unfold maxLen; omega) (by omega) W hseq)
end
section
open Go.RowKit Go.Shelf
attribute [local go_sem ↓] Go.wp_at_zero Go.wp_at_succ
open grp (gof gof_in fits fits_wf IRow intV below_on' below_made ret_bool rem_twice rem_in ret_int own_below)
noncomputable def siT : TypeInfo := (Tryz.prog.info? 74).get (by kernel_rfl)
noncomputable def siE : TypeInfo := (Tryz.prog.info? 2).get (by kernel_rfl)
theorem siK (n : Nat) (h2 : 2 ≤ n) : Lib.swapperK n siE 6 = 5 := by
 have a : siE.hasPointers = false := by kernel_rfl
 have b : siE.bytes = 8 := by kernel_rfl
 have c : (n == 0) = false := by simp; omega
 have d : (n == 1) = false := by simp; omega
 simp [Lib.swapperK, a, b, c, d]
theorem tiny_any (p : Option Addr) (n c : Nat) (h1 : n ≤ 1) (S : Nat) (W : World) : Calls Tryz.prog 63 #[.iface 74 (.slice p n c), .func (.func 64) #[] #[.pointer (some ⟨S, 0, none⟩)]] W fun e w' => e = .returned (.tuple #[]) ∧ ∃ os, w' = Sort.grow W os := by
 have hK : Lib.swapperK n siE 6 = n + 1 := by
  rcases Nat.eq_zero_or_pos n with h | h
  · subst h; simp [Lib.swapperK]
  · obtain rfl : n = 1 := by omega
    simp [Lib.swapperK]
 exact Any.sort_Slice_tiny Tryz.laysGg6 74 2 siT siE (by kernel_rfl) (by kernel_rfl) (by kernel_rfl) (by kernel_rfl) 6 (fun _ => by kernel_rfl) p n c h1 (134 + n) (by
  rw [hK]
  rcases Nat.eq_zero_or_pos n with h | h
  · subst h; kernel_rfl
  · obtain rfl : n = 1 := by omega
    kernel_rfl) (.func 64) #[] #[.pointer (some ⟨S, 0, none⟩)] W
theorem sort_any {W : World} {B g cap S : Nat} {ss : List Int} (ho : W.ownsRow B 2 1 (.slice (some ⟨g, 0, none⟩) ss.length cap) ss.length (ss.map intV)) (hS : W.cell? ⟨S, 0, none⟩ = some (.slice (some ⟨g, 0, none⟩) ss.length cap)) (hSg : S ≠ g) (hSl : S < W.heap.size) (hl : ss.length ≤ 100000)
  {L : Rows} (hL : Good L) (hp : ss.Perm (L.map Prod.fst)) :
  Calls Tryz.prog 63 #[.iface 74 (.slice (some ⟨g, 0, none⟩) ss.length cap), .func (.func 64) #[] #[.pointer (some ⟨S, 0, none⟩)]] W fun e w' => e = .returned (.tuple #[]) ∧
   w'.ownsRow B 2 1 (.slice (some ⟨g, 0, none⟩) ss.length cap) ss.length ((L.map Prod.fst).map intV) ∧ W.grownBy w' (some g) := by
 rcases ho.2 with ⟨h0, _⟩ | ⟨g', cap', cur, hv, hbase, hb, h1, h2, h3, h4⟩
 · cases h0
 · simp only [Value.slice.injEq, Option.some.injEq, Addr.mk.injEq, and_true, true_and] at hv
   obtain ⟨rfl, rfl⟩ := hv
   have hglt : g < W.heap.size := lt_of_get hb
   have hH : Sort.Holds (Value.int .i64) W g 0 ss.toArray := holds_of_block_i hb (by rw [Nat.mul_one] at h4; exact h4)
   by_cases h : 2 ≤ ss.length
   · have hless : LessReads Tryz.prog 64 #[.pointer (some ⟨S, 0, none⟩)] (Value.int .i64) lessB g 0 ss.toArray.size W := by
      intro m os dk hs i j hi hj
      have hb1 : g < (Sort.ahead W m).heap.size := hglt
      have e : sortWorld (Value.int .i64) W g 0 m dk os = Sort.putRow (Value.int .i64) (Sort.grow (Sort.ahead W m) os) g 0 dk := by
       unfold sortWorld; rw [Sort.putRow_grow _ (Sort.ahead W m) _ g 0 _ hb1]
      have hHg : Sort.Holds (Value.int .i64) (Sort.grow (Sort.ahead W m) os) g 0 ss.toArray := Sort.holds_grow _ _ _ g 0 _ hb1 (Sort.holds_ahead _ _ _ _ _ _ hH)
      refine less_any g 0 cap S ss.toArray.size _ (fun t => dk[t]!) ?_ (fun t ht => ?_) i j hi hj
      · rw [e, Sort.cell?_putRow_other _ _ g 0 dk _ (Or.inl hSg), Sort.cell?_grow _ _ _ hSl]
        simpa using hS
      · rw [e]; exact Sort.cell?_putRow _ _ g 0 ss.toArray dk hHg hs t (by omega)
     have hSo := Any.sort_Slice_sorted Tryz.laysGg6 74 2 siT siE (by kernel_rfl) (by kernel_rfl) (by kernel_rfl) (by kernel_rfl) 6 (fun _ => by kernel_rfl) (by kernel_rfl) (fun _ => by kernel_rfl) (Value.int .i64) (fun _ => rfl) lessB swo_less 64 _
      (enters_of Tryz.func64 (by kernel_rfl) rfl) g 0 cap ss.toArray (by simpa using h) (by simp; omega) 138 (by rw [siK _ (by simpa using h)]; kernel_rfl) true
      (fun args W => run_callFunc_extern Tryz.func138 (by kernel_rfl) (by kernel_rfl) (by kernel_rfl) (e := Extern.ReflectliteSwapper.swap true) (by kernel_rfl) args W) W hless hH hglt
     simp only [List.size_toArray] at hSo
     refine hSo.mono ?_
     rintro e w' ⟨rfl, d', n, os, hpm, hso, rfl⟩
     have hk : d'.toList = L.map Prod.fst := sorted_keys hL (by simpa using hp) (by simpa using hpm) (by simpa using hso)
     have hd : d' = (L.map Prod.fst).toArray := by rw [← hk]
     subst hd
     exact ⟨rfl, ownsRow_sorted_i (by simpa using hp.length_eq.symm) hbase hb h1 h2 h3, grownBy_sorted_i _⟩
   · have hT := tiny_any (some ⟨g, 0, none⟩) ss.length cap (by omega) S W
     have he : ss = L.map Prod.fst := by
      cases ss with
      | nil => exact (List.nil_perm.1 hp).symm
      | cons x r =>
       cases r with
       | nil => exact (List.perm_singleton.1 hp.symm).symm
       | cons y r => simp at h
     refine hT.mono ?_
     rintro e w' ⟨rfl, os, rfl⟩
     have hg : W.grownBy (Sort.grow W os) (some g) := ⟨rfl, rfl, rfl, by simp, fun k hk _ => Sort.heap_grow_old _ _ hk⟩
     refine ⟨rfl, ⟨by rw [← he]; exact ho.1, .inr ⟨g, cap, cur, rfl, hbase, (Sort.heap_grow_old _ _ hglt).trans hb, h1, h2, h3, by rw [← he]; exact h4⟩⟩, hg⟩
def KeysPost (w : World) (L : Rows) (e : Ending) (w' : World) : Prop := ∃ a cap, e = .returned (.slice a L.length cap) ∧ NA w' a cap (L.map Prod.fst) ∧ Below w.heap.size w w'
set_option maxHeartbeats 1600000 in
set_option maxRecDepth 1000000 in
theorem keys_any {w : World} {t b : Nat} {L : Rows} (h : IsTab w t b L) : Calls Tryz.prog 29 #[.pointer (some ⟨t, 0, none⟩)] w (KeysPost w L) := by
 obtain ⟨D, ho, hs, hD, hk⟩ := h.map.keys h.good
 have hlen := h.good.len
 have m0 := h.obj.cells.1
 have HO := Lib.hid ho
 have HS := Lib.hid hs
 have HK := Lib.hid hk
 have HG := Lib.hid h.good
 have HLEN := Lib.hid hlen
 have HMK := Lib.hid (mkeys_any b w)
 have hb1 : Below w.heap.size w (w.alloc (.cells #[.map (some b)] 81)) := below_made _ _
 have HC := Lib.hid (collect_any (W := w.alloc (.cells #[.map (some b)] 81)) (b := b) (Bm := w.heap.size) (by simp) (by simp) (ho.alloc _) (by omega))
 obtain ⟨W1, hW1⟩ : ∃ W, w.alloc (.cells #[.map (some b)] 81) = W := ⟨_, rfl⟩
 rw [hW1] at HC HMK hb1
 have HB1 := Lib.hid hb1
 clear h ho hs hD hk hlen hb1
 go_enter Tryz.func29, Tryz.ntmps29
 go_wp2_with fail
 refine HMK.out.mono ?_
 rintro e w1 ⟨rfl, rfl⟩
 go_wp2_with fail
 refine HC.out.mono ?_
 rintro e w2 ⟨v, ss, rfl, hp, ho2, hnil, hb2⟩
 have HP := Lib.hid (hp.trans HK.out.symm)
 have HB2 := Lib.hid (below_on' HB1.out hb2)
 have hle : ss.length = L.length := by have := HP.out.length_eq; simpa using this
 have HLE := Lib.hid hle
 rcases ho2.2 with ⟨rfl, h0⟩ | ⟨g, cap, cur, rfl, hbase, hg2, -⟩
 · have HT := Lib.hid (fun S W => tiny_any none 0 0 (by omega) S W)
   have hL0 : L.map Prod.fst = [] := by
    have := HLE.out
    rw [h0] at this
    cases L with
    | nil => rfl
    | cons p L => simp at this
   have HE : Hid (∀ w', Below w.heap.size w w' → KeysPost w L (.returned (.slice none 0 0)) w') := Lib.hid (fun w' hb => by
    unfold KeysPost
    rw [hL0, ← HLE.out, h0]
    exact ⟨none, 0, rfl, NA.nil w', hb⟩)
   have hc : (w2.alloc (.cells #[.slice none 0 0] 74)).cell? ⟨w2.heap.size, 0, none⟩ = some (.slice none 0 0) := by simp
   have hb3 : Below w2.heap.size w2 (w2.alloc (.cells #[.slice none 0 0] 74)) := below_made _ _
   obtain ⟨W3, hW3⟩ : ∃ W, w2.alloc (.cells #[.slice none 0 0] 74) = W := ⟨_, rfl⟩
   have hs3 : w2.heap.size < W3.heap.size := by rw [← hW3]; simp
   rw [hW3] at hc hb3
   have HW3 := Lib.hid hW3
   have HB3 := Lib.hid (below_on' HB2.out hb3)
   have HC3 := Lib.hid hc
   have HS3 := Lib.hid hs3
   obtain ⟨S, hS⟩ : ∃ S, w2.heap.size = S := ⟨_, rfl⟩
   rw [hS] at HC3 HS3
   have HSS := Lib.hid hS
   clear ho2 hb2 hp hle hnil h0 hc hb3 hs3 hW3 hS
   go_wp2_with fail
   rw [HW3.out, HSS.out]
   refine (HT.out _ _).mono ?_
   rintro e w4 ⟨rfl, os, rfl⟩
   have hc4 : (Sort.grow W3 os).cell? ⟨S, 0, none⟩ = some (.slice none 0 0) := (Sort.cell?_grow _ _ _ HS3.out).trans HC3.out
   have HB4 : Hid (Below w.heap.size w (Sort.grow W3 os)) := Lib.hid (below_on' HB3.out ⟨rfl, rfl, rfl, by simp, fun k hk => Sort.heap_grow_old _ _ hk⟩)
   obtain ⟨W4, hW4⟩ : ∃ W, Sort.grow W3 os = W := ⟨_, rfl⟩
   rw [hW4] at hc4 HB4 ⊢
   clear hW4
   go_wp2_with fail
   go_ret
   exact HE.out _ HB4.out
 · have hg2l := lt_of_get hg2
   have hc : (w2.alloc (.cells #[.slice (some ⟨g, 0, none⟩) ss.length cap] 74)).cell? ⟨w2.heap.size, 0, none⟩ = some (.slice (some ⟨g, 0, none⟩) ss.length cap) := by simp
   have hb3 : Below w2.heap.size w2 (w2.alloc (.cells #[.slice (some ⟨g, 0, none⟩) ss.length cap] 74)) := below_made _ _
   obtain ⟨W3, hW3⟩ : ∃ W, w2.alloc (.cells #[.slice (some ⟨g, 0, none⟩) ss.length cap] 74) = W := ⟨_, rfl⟩
   have hs3 : w2.heap.size < W3.heap.size := by rw [← hW3]; simp
   rw [hW3] at hc hb3
   have HW3 := Lib.hid hW3
   have HB3 := Lib.hid (below_on' HB2.out hb3)
   have HC3 := Lib.hid hc
   have HS3 := Lib.hid hs3
   have hne : w2.heap.size ≠ g := fun e => by omega
   have HSO := Lib.hid (sort_any (own_below ho2 hb3) hc hne hs3 (by have := HLEN.out; omega) HG.out HP.out)
   have HNE := Lib.hid hne
   have HGE : Hid (w.heap.size ≤ g) := Lib.hid (Nat.le_trans HB1.out.size hbase)
   obtain ⟨S, hS⟩ : ∃ S, w2.heap.size = S := ⟨_, rfl⟩
   rw [hS] at HC3 HS3 HSO HNE
   have HSS := Lib.hid hS
   clear ho2 hb2 hp hle hnil hne hg2 hg2l hbase hc hb3 hs3 hW3 hS
   go_wp2_with fail
   rw [HW3.out, HSS.out]
   have HLK := Lib.hid (show (L.map Prod.fst).length = ss.length by have := HLE.out; simp; omega)
   refine HSO.out.mono ?_
   rintro e w4 ⟨rfl, ho4, hg4⟩
   have hc4 : w4.cell? ⟨S, 0, none⟩ = some (.slice (some ⟨g, 0, none⟩) ss.length cap) := (World.cell?_of_block (hg4.block S HS3.out (fun e => HNE.out (Option.some.inj e)))).trans HC3.out
   have HB4 := Lib.hid (HB3.out.grown hg4 HB3.out.size (fun k hk => by cases hk; exact HGE.out))
   obtain ⟨-, a4, cap4, hv4, hna⟩ := NR.own ho4
   rw [HLK.out] at hv4
   simp only [Value.slice.injEq, true_and] at hv4
   obtain ⟨rfl, rfl⟩ := hv4
   have HE : Hid (KeysPost w L (.returned (.slice (some ⟨g, 0, none⟩) ss.length cap)) w4) := Lib.hid ⟨_, _, by rw [HLE.out], hna, HB4.out⟩
   clear ho4 hg4 hna
   go_wp2_with fail
   go_ret
   exact HE.out
end
section
open Go.RowKit
open grp (gof gof_in fits fits_wf IRow intV below_on' below_made ret_bool irow_new below_drewN EqPost eq_yes eq_no Pre pre_more)
theorem sl_new (w : World) (l : List Int) (t : TypeId) (c : Nat) : Sl (w.alloc (.cells (l.map intV).toArray t)) (some ⟨w.heap.size, 0, none⟩) c l :=
 ⟨fun e => (by cases e), fun hl => ⟨w.heap.size, 0, rfl, by simp, fun i hi => by
  rw [cell_of_row _ w.heap.size (0 + i) _ _ _ (Go.heap_alloc_new w _)]
  simp [hi, intV]⟩⟩
end
section
open Go.RowKit
attribute [local go_sem ↓] Go.wp_at_zero Go.wp_at_succ
open grp (gof gof_in fits fits_wf IRow intV below_on' below_made ret_bool contains_any)
theorem same_kl (a b : Int) : (kl a).sameKey (kl b) = decide (a = b) := by
 by_cases h : a = b
 · subst h; simp [WideAt.sameKey_self (key_is a)]
 · rw [Maps.sameKey_ne (kl_ne h)]; simp [h]
theorem NA.ne_tab {w : World} {t b : Nat} {L : Rows} {a : Option Addr} {cap : Nat} {l : List Int} (h : NA w a cap l) (ht : IsTab w t b L) : 0 < l.length → ∀ ad, a = some ad → ad.block ≠ t := fun hl ad e => by
 obtain ⟨g, o, cur, fr, e2, h2, _⟩ := h.1 hl
 rw [e] at e2
 obtain rfl := Option.some.inj e2
 intro e3
 have e3 : g = t := e3
 have := ht.obj
 unfold TabO at this
 rw [← e3, h2] at this
 cases this
end
section
open Go.RowKit
attribute [local go_sem ↓] Go.wp_at_zero Go.wp_at_succ
open grp (gof gof_in fits fits_wf IRow intV below_on' below_made ret_bool)
def Seen (L U : Rows) (left : Lit → Bool) : Prop := ∀ x c, look U x = some c → left (kl x) = false → look L x = none
theorem Seen.step {L U : Rows} {left : Lit → Bool} {x : Int} (h : Seen L U left) (hx : look L x = none) : Seen L U (fun z => left z && !z.sameKey (kl x)) := fun y c hy hl => by
 simp only [same_kl] at hl
 by_cases e : y = x
 · subst e; exact hx
 · simp [e] at hl
   exact h y c hy hl
end
section
open Go.RowKit
attribute [local go_sem ↓] Go.wp_at_zero Go.wp_at_succ
open grp (gof gof_in fits fits_wf IRow intV below_on' below_made ret_bool)
theorem own_again {w w' : World} {b n : Nat} {D : DataW Value} (h : w.ownsMap Tryz.prog 2 RH b n D) (hb : w'.heap[b]? = w.heap[b]?) : w'.ownsMap Tryz.prog 2 RH b n D := by
 obtain ⟨es, ck, h1, h2⟩ := h
 exact ⟨es, ck, hb.trans h1, h2⟩
end
section
open Go.RowKit
attribute [local go_sem ↓] Go.wp_at_zero Go.wp_at_succ
open grp (gof gof_in fits fits_wf IRow intV below_on' below_made ret_bool own_below)
theorem copy_nil (w : World) : Calls Tryz.prog 28 #[.pointer none] w fun e w' => e = .returned (.pointer none) ∧ w' = w := by
 go_enter Tryz.func28, Tryz.ntmps28
 go_wp2_with fail
 go_ret
 exact ⟨rfl, rfl⟩
theorem TabM.look_far {w : World} {b : Nat} {L : Rows} (h : TabM w b L) {k : Int} (hk : fits k) {c : Cl} (hc : look L k = some c) : ∃ a cap, NA w a cap c.2 ∧ ∀ w' : World, w'.heap[b]? = w.heap[b]? →
  (Instr.lookup 81 (.map (some b)) (.int .i64 k) false).run Tryz.prog w' = .ok (mkC (c.1, a, c.2.length, cap)) w' := by
 obtain ⟨D, ho, hs, hD⟩ := h
 have := hD k hk
 unfold CellAt at this
 rw [hc] at this
 obtain ⟨a, cap, h1, h2, h3⟩ := this
 refine ⟨a, cap, h1, fun w' hb => ?_⟩
 obtain ⟨v', ps', hr', hv'⟩ := (own_again ho hb).lookup key64 Tryz.underlying81 (zeroC w') (RH_mk _) (key_of hk)
 rw [h3] at hv'
 obtain ⟨c2, rfl, e2⟩ := RH_inv hv'
 simp only [Prod.mk.injEq, DataW.held.injEq] at e2
 rw [← e2.1] at hr'
 exact hr'
def rowN (p : Int × Cl) : List Int := p.1 :: p.2.1 :: (p.2.2.length : Int) :: p.2.2
def numsK (L : Rows) (k : Nat) : List Int := (L.length : Int) :: (L.take k).flatMap rowN
theorem numsK_all (L : Rows) : numsK L L.length = numsL L := by unfold numsK numsL; rw [List.take_length]; rfl
theorem numsK_zero (L : Rows) : numsK L 0 = [(L.length : Int)] := by simp [numsK]
theorem numsK_more {L : Rows} {k : Nat} (hk : k < L.length) : numsK L (k + 1) = (numsK L k ++ [L[k].1, L[k].2.1, (L[k].2.2.length : Int)]) ++ L[k].2.2 := by
 unfold numsK
 rw [List.take_succ_eq_append_getElem hk, List.flatMap_append]
 simp [rowN]
theorem numsK_len {L : Rows} (h : Good L) : ∀ k, (numsK L k).length ≤ 1 + 19 * k := by
 intro k
 induction k with
 | zero => simp [numsK]
 | succ k ih =>
  rcases Nat.lt_or_ge k L.length with hk | hk
  · rw [numsK_more hk]
    have := (h.cell L[k] (List.getElem_mem hk)).few
    simp only [List.length_append, List.length_cons, List.length_nil]
    omega
  · have e : numsK L (k + 1) = numsK L k := by unfold numsK; rw [List.take_of_length_le (by omega), List.take_of_length_le hk]
    rw [e]; omega
theorem numsL_fits {L : Rows} (h : Good L) : ∀ n ∈ numsL L, byt.fits n := by
 intro n hn
 unfold numsL at hn
 rcases List.mem_cons.1 hn with rfl | hn
 · have := h.len; exact ⟨by omega, by omega⟩
 · obtain ⟨p, hp, hn⟩ := List.mem_flatMap.1 hn
   have hc := h.cell p hp
   have hk := h.key p hp
   rcases List.mem_cons.1 hn with rfl | hn
   · exact hk
   · rcases List.mem_cons.1 hn with rfl | hn
     · exact hc.acc
     · rcases List.mem_cons.1 hn with rfl | hn
       · have := hc.few; exact ⟨by omega, by omega⟩
       · exact hc.all n hn
theorem own_new (w : World) (l : List Int) (n : Nat) (hn : l.length = n) (h0 : n ≤ 1000000) : (w.alloc (.cells (l.map intV).toArray 2)).ownsRow w.heap.size 2 1 (.slice (some ⟨w.heap.size, 0, none⟩) n n) n (l.map intV) := by
 subst hn
 exact ⟨by simp, .inr ⟨w.heap.size, l.length, _, rfl, Nat.le_refl _, Go.heap_alloc_new w _, Nat.le_refl _, by unfold maxLen; omega, by simp, by rw [Nat.mul_one, List.take_of_length_le (by simp)]⟩⟩
theorem own_len {w : World} {B e n : Nat} {v : Value} {xs : List Int} (h : w.ownsRow B e 1 v n (xs.map intV)) : w.ownsRow B e 1 v xs.length (xs.map intV) := by
 have hn : n = xs.length := by have := h.1; simpa using this.symm
 rw [← hn]; exact h
theorem wpList_app {P : Program} {w w' : World} {ops : Array Oper} {rest : List Oper} {o : Oper} {a : Act} {Q : Exit → Act → World → Prop} {v u r : Value} (hg : o.guard = none) (s x : Operand) (t : TypeId)
  (ho : o.op = .call { callee := .builtin .append, args := #[s, x], argTypes := #[t, t] }) (hs : a.eval s = v) (hx : a.eval x = u) (hr : (Builtin.append_ #[t, t] o.type #[v, u]).run P w = .ok r w')
  (h : wpList P ops Q rest (a.put o.dst r) w') : wpList P ops Q (o :: rest) a w := by
 refine wpList_plain hg fun K' hK' => ?_
 unfold Oper.wp execOp
 simp only [ho, resolve, invoke, builtin, Sem.run_bind, Sem.run_pure, Result.andThen_ok, List.map_toArray, List.map_cons, List.map_nil, hs, hx, hr]
 exact hK' _ _ h
def tabB (L : Rows) : ByteArray := byt.txt (byt.flat (numsL L))
def BytesRel (w wr : World) (L : Rows) (v4 : Value) (k : Nat) : Prop := wr.ownsRow w.heap.size 2 1 v4 (numsK L k).length ((numsK L k).map intV) ∧ Below w.heap.size w wr
set_option maxHeartbeats 1600000 in
set_option maxRecDepth 1000000 in
theorem bytes_any {w : World} {t b : Nat} {L : Rows} (h : IsTab w t b L) : Calls Tryz.prog 22 #[.pointer (some ⟨t, 0, none⟩)] w fun e w' => e = .returned (.string (tabB L)) ∧ Below w.heap.size w w' := by
 have HH := Lib.hid h
 have HKS := Lib.hid (keys_any h)
 have hlen := h.good.len
 clear h
 obtain ⟨n, hn⟩ : ∃ n, L.length = n := ⟨_, rfl⟩
 have HN := Lib.hid hn
 rw [hn] at hlen
 go_enter Tryz.func22, Tryz.ntmps22
 go_wp2_with fail
 refine HKS.out.mono ?_
 rintro e w1 ⟨a, cap, rfl, hna, hb⟩
 have HNA := Lib.hid hna
 have HB := Lib.hid hb
 have hr0 : BytesRel w1 (w1.alloc (.cells #[.int .i64 (n : Int)] 2)) L (.slice (some ⟨w1.heap.size, 0, none⟩) 1 1) 0 := by
  unfold BytesRel
  rw [numsK_zero, hn]
  exact ⟨own_new w1 [(n : Int)] 1 rfl (by omega), below_made _ _⟩
 have HH1 := Lib.hid (HH.out.below hb)
 have HR0 := Lib.hid hr0
 clear hna hb hr0
 rw [hn]
 clear hn
 go_wp2_with fail
 go_loopg [4, 17] n (fun g v4 v17 wr => ∃ k : Nat, k + g = n ∧ v17 = .int .i64 k ∧ BytesRel w1 wr L v4 k)
 case atStart => exact ⟨0, by omega, rfl, HR0.out⟩
 case round =>
  rename World => wr
  obtain ⟨k, hkg, rfl, hrel⟩ := hrel
  have HRL := Lib.hid hrel
  have HB1 := Lib.hid hrel.2
  clear hrel
  cases gk with
  | zero =>
   have hkz : ¬ ((k : Int) < (n : Int)) := by omega
   obtain rfl : k = n := by omega
   have ho := HRL.out.1
   rw [← HN.out, numsK_all] at ho
   obtain ⟨-, a5, cap5, hv5, hna5⟩ := NR.own ho
   have HNA5 := Lib.hid hna5
   have hl5 : (numsL L).length ≤ 1000000 := by have := numsK_len HH.out.good L.length; rw [numsK_all] at this; have := HH.out.good.len; omega
   have HP := Lib.hid (byt.put_any (numsL L) a5 cap5 wr hna5.1.rd (numsL_fits HH.out.good) hl5)
   unfold byt.PutPost at HP
   rw [hv5]
   clear ho hna5 hv5 hl5
   go_wp2_with fail
   refine HP.out.mono ?_
   rintro e w6 ⟨rfl, hb6⟩
   have HB6 := Lib.hid (below_on' HB.out (below_on' HRL.out.2 hb6))
   clear hb6
   go_wp2_with fail
   try rw [Exit.noGoto_ret]
   go_ret
   exact ⟨rfl, HB6.out⟩
  | succ g =>
   have hkz : (k : Int) < (n : Int) := by omega
   have hkl : k < L.length := by have := HN.out; omega
   have hka : k < (L.map Prod.fst).length := by simpa using hkl
   obtain ⟨gb, o, cur, fr, rfl, hgb, hcur⟩ := (HNA.out.keep (.of_below HB1.out)).1 (by omega)
   have hck := cell_of_row wr gb (o + k) _ _ _ hgb
   rw [hcur k hka] at hck
   obtain ⟨p, hp⟩ : ∃ p, L[k] = p := ⟨_, rfl⟩
   have hpm : p ∈ L := hp ▸ List.getElem_mem hkl
   rw [show (L.map Prod.fst)[k] = p.1 by rw [← hp]; simp] at hck
   have hbw := HRL.out.2
   have htb := HH1.out.below hbw
   have hm0 := htb.obj.cells.1
   have hlk := look_mem HH.out.good.ord hpm
   obtain ⟨a2, cap2, hna2, hlo⟩ := HH1.out.map.look_far (HH.out.good.key p hpm) hlk
   have hlo := hlo wr (hbw.block b HH1.out.lt.2.1)
   unfold mkC at hlo
   dsimp only at hlo
   have hfi := HH.out.good.cell p hpm
   have hmore := numsK_more hkl
   rw [hp] at hmore
   have HMORE := Lib.hid hmore
   have HLEN := Lib.hid (numsK_len HH.out.good k)
   have HKN := Lib.hid hkg
   have HF2 := Lib.hid hfi.few
   have HNA2 := Lib.hid hna2
   clear hna2 htb hfi hcur hgb hlk hp hpm hmore hbw
   have hb3 : Below wr.heap.size wr (wr.alloc (.cells #[.int .i64 p.2.1, .slice a2 p.2.2.length cap2] 77)) := below_made _ _
   have hbx := Box2.new wr (p.2.1, a2, p.2.2.length, cap2)
   obtain ⟨W3, hW3⟩ : ∃ W, wr.alloc (.cells #[.int .i64 p.2.1, .slice a2 p.2.2.length cap2] 77) = W := ⟨_, rfl⟩
   dsimp only at hbx
   rw [hW3] at hb3 hbx
   have HW3 := Lib.hid hW3
   obtain ⟨N, hN⟩ : ∃ N, wr.heap.size = N := ⟨_, rfl⟩
   have HNN := Lib.hid hN
   rw [hN] at hbx
   have HBX := Lib.hid hbx
   have HB3 := Lib.hid hb3
   obtain ⟨x0, x1, -, -⟩ := hbx.facts
   dsimp only at x0 x1
   clear hb3 hbx hW3 hN
   go_upto_region 9 with fail
   rw [HW3.out, HNN.out]
   obtain ⟨M, hM⟩ : ∃ M, p.2.2.length = M := ⟨_, rfl⟩
   have HMM := Lib.hid hM
   rw [hM] at x1
   rw [hM]
   have ho3 := own_below HRL.out.1 HB3.out
   have hb4 : Below W3.heap.size W3 (W3.alloc (.cells #[.int .i64 p.1, .int .i64 p.2.1, .int .i64 (M : Int)] 2)) := below_made _ _
   have hwle : w1.heap.size ≤ W3.heap.size := Nat.le_trans HRL.out.2.size HB3.out.size
   obtain ⟨v5, w5, hr5, ho5, hg5⟩ := app_run (own_below ho3 hb4) (sl_new W3 [p.1, p.2.1, (M : Int)] 2 3) (by have := HLEN.out; simp only [List.length_cons, List.length_nil]; omega) (Nat.le_trans hwle hb4.size) 74
   have hs5 : (some (⟨W3.heap.size, 0, none⟩ : Addr)) = some ⟨W3.heap.size, 0, none⟩ := rfl
   clear hs5
   have hbw3 := below_on' HRL.out.2 (below_on' HB3.out hb4)
   have hb5 := hbw3.grown hg5 hbw3.size (fun j hj => (ho3.lt j hj).1)
   have HB5 := Lib.hid hb5
   have hnN : ∀ j, u4.ownBlock = some j → j ≠ N := fun j hj e => by
    obtain ⟨h1, h2⟩ := ho3
    rcases h2 with ⟨h3, _⟩ | ⟨g5, cap5, cur5, h3, h4, h5, _⟩
    · rw [h3] at hj; simp [Value.ownBlock] at hj
    · rw [h3] at hj
      simp [Value.ownBlock] at hj
      subst hj
      subst e
      rw [HBX.out] at h5; cases h5
   have hbx5 : Box2 w5 N (p.2.1, a2, M, cap2) := by
    have e := hg5.block N (Nat.lt_of_lt_of_le (lt_of_get HBX.out) hb4.size) (fun e => hnN N e.symm rfl)
    unfold Box2
    rw [e, hb4.block N (lt_of_get HBX.out)]
    have := HBX.out
    unfold Box2 at this
    rw [HMM.out] at this
    exact this
   have hna5 : NA w5 a2 cap2 p.2.2 := HNA2.out.keep (.of_below hb5)
   obtain ⟨v6, w6, hr6, ho6, hg6⟩ := app_run ho5 hna5.sl (by have := HLEN.out; have := HF2.out; simp only [List.length_append, List.length_cons, List.length_nil]; omega) hb5.size 74
   have hb6 := hb5.grown hg6 hb5.size (fun j hj => (ho5.lt j hj).1)
   have HNX : Hid (BytesRel w1 w6 L v6 (k + 1)) := Lib.hid (by
    unfold BytesRel
    have hm := HMORE.out
    rw [HMM.out] at hm
    rw [hm]
    exact ⟨own_len ho6, hb6⟩)
   have hr5' : (Builtin.append_ #[74, 74] 74 #[u4, .slice (some ⟨W3.heap.size, 0, none⟩) 3 3]).run Tryz.prog (W3.alloc (.cells #[.int .i64 p.1, .int .i64 p.2.1, .int .i64 (M : Int)] 2)) = .ok v5 w5 := hr5
   have HR5 := Lib.hid hr5'
   rw [HMM.out] at hr6
   have HR6 := Lib.hid hr6
   obtain ⟨y0, y1, -, -⟩ := hbx5.facts
   dsimp only at y0 y1
   clear hr5 hr5' hr6 ho3 hb4 hwle ho5 hg5 hbw3 hb5 hnN hbx5 hna5 ho6 hg6 hb6
   go_upto_region 10 with (at_builtin; refine wpList_app rfl (.tmp 27) (.tmp 34) 74 rfl rfl rfl HR5.out ?_)
   go_wp2_with (at_builtin; refine wpList_app rfl (.tmp 36) (.tmp 38) 74 rfl rfl rfl HR6.out ?_)
   go_roundg g
   case measure => omega
   case rel => exact ⟨k + 1, by have := HKN.out; omega, by go_num, HNX.out⟩
end
end Go.Proofs.YtepdecnegihhhaaGreatDoor.tbl
