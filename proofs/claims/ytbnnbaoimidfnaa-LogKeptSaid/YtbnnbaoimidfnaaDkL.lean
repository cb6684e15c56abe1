/- What Sync makes of a disk. -/
import Derived.Test.YtbnnbaoimidfnaaDkK
namespace Go.Proofs.Ytbnnbaoimidfnaa.dsk
set_option linter.unusedSimpArgs false
set_option linter.unusedVariables false
open Go.RowKit

theorem row_setCells {b n : Nat} {T : TypeId} : ∀ (l : List Value) (o : Nat) (w : World) (R : Nat → Value), w.rowIs b T n R → (w.setCells b o l).rowIs b T n (fun j => if o ≤ j ∧ j < o + l.length then l.getD (j - o) undef else R j)
  | [], o, w, R, h => h.congr fun j _ => by rw [if_neg (by rintro ⟨h1, h2⟩; simp at h2; omega)]
  | v :: l, o, w, R, h => by
    refine (row_setCells l (o + 1) _ _ (h.set o v)).congr fun j _ => ?_
    rw [List.length_cons]
    by_cases h1 : o + 1 ≤ j ∧ j < o + 1 + l.length
    · rw [if_pos h1, if_pos (by omega), show j - o = (j - (o + 1)) + 1 from by omega]
      simp
    · rw [if_neg h1]
      by_cases h2 : j = o
      · subst h2; rw [if_pos rfl, if_pos (by omega), Nat.sub_self]; simp
      · rw [if_neg h2, if_neg (by omega)]
theorem row_set16 {w : World} {b n o : Nat} {T : TypeId} {R : Nat → Value} (h : w.rowIs b T n R) (vs : Nat → Value) : (w.setCells b o (row16 vs)).rowIs b T n (with16 o R vs) := by
  refine (row_setCells (row16 vs) o w R h).congr fun j _ => ?_
  rw [row16_length]
  unfold with16
  by_cases h1 : o ≤ j ∧ j < o + 16
  · rw [if_pos h1, if_pos h1, List.getD_eq_getElem?_getD, row16_get vs (by omega)]; rfl
  · rw [if_neg h1, if_neg h1]
theorem heap_setCells_other (b : Nat) : ∀ (l : List Value) (o : Nat) (w : World) (k : Nat), k ≠ b → (w.setCells b o l).heap[k]? = w.heap[k]?
  | [], _, _, _, _ => rfl
  | v :: l, o, w, k, h => (heap_setCells_other b l (o + 1) _ k h).trans (heap_setCell_other w _ k v h)
theorem setCells_world (b : Nat) : ∀ (l : List Value) (o : Nat) (w : World), (w.setCells b o l).os = w.os ∧ (w.setCells b o l).tape = w.tape ∧ (w.setCells b o l).output = w.output ∧ (w.setCells b o l).heap.size = w.heap.size
  | [], _, _ => ⟨rfl, rfl, rfl, rfl⟩
  | v :: l, o, w => by
    obtain ⟨h1, h2, h3, h4⟩ := setCells_world b l (o + 1) (w.setCell ⟨b, o, none⟩ v)
    exact ⟨h1, h2, h3, h4.trans (by simp)⟩
theorem only_setCells (b : Nat) (l : List Value) (o : Nat) (w : World) : Only (· = b) w (w.setCells b o l) := by
  obtain ⟨h1, h2, h3, h4⟩ := setCells_world b l o w
  exact ⟨h1, h2, h3, by rw [h4]; exact Nat.le_refl _, fun k _ hn => heap_setCells_other b l o w k hn⟩
theorem there_of_row {w : World} {b n o m : Nat} {T : TypeId} {R : Nat → Value} (h : w.rowIs b T n R) (hm : o + m ≤ n) : w.there b o m := fun j hj => ⟨by rw [h.cell (by omega)]; rfl, h.frozen _⟩
theorem fls_one {w : World} {vs : Nat → Value} {f : Files} (h : Fls w vs f) : (row16 vs).toArray.all (·.oneCell') = true := by
  refine all_oneCell_toArray fun v hv => ?_
  obtain ⟨i, hi, rfl⟩ := List.mem_map.1 hv
  obtain ⟨a, cap, ev⟩ := (h.has i (List.mem_range.1 hi)).len
  rw [ev]; rfl

theorem sync_off {x : D} (ho : x.off = true) (w : World) (F : Nat → Prop) (d : Nat) (hx : IsDisk w F d x) : Calls Try.prog 26 #[ptr d 0] w fun e w' => e = .returned (.int .i64 50) ∧ Post F d x w w' := by
  go_enter Try.func26, Try.ntmps26
  go_wp2_with fail
  with_reducible refine (refusal_off_at hx ho (Below.refl _ _) _ _ _).mono ?_
  rintro e w' ⟨rfl, rfl⟩
  go_wp2_with fail
  go_ret
  exact ⟨rfl, Post.same hx (Below.refl _ _)⟩
theorem sync_gone {x x1 : D} {E : Int} (hop : x.op = (E, x1)) (hE : E ≠ 0) (ho : x.off = false) (w : World) (F : Nat → Prop) (d : Nat) (hx : IsDisk w F d x) : Calls Try.prog 26 #[ptr d 0] w fun e w' => e = .returned (.int .i64 E) ∧ Post F d x1 w w' := by
  obtain ⟨vs, us, lo, ps, hr, hR, hok, hd⟩ := id hx
  have hE' : (E != 0) = true := by simp [hE]
  have hnow : x1.now = x.now := by have := D.op_now x; rw [hop] at this; exact this
  have hok1 : x1.Ok := by have := D.op_ok hok; rw [hop] at this; exact this
  have HC := Lib.hid (operate_at hop w F d x.now vs us lo ps hr hR hok.left1 hok.left2)
  have HX := Lib.hid hx
  clear hr
  go_enter Try.func26, Try.ntmps26
  go_wp2_with fail
  with_reducible refine (refusal_zero HX.out ho).mono ?_
  rintro e w' ⟨rfl, rfl⟩
  go_wp2_with fail
  refine HC.out.mono ?_
  rintro e w2 ⟨rfl, hdone⟩
  have HD := Lib.hid hdone
  clear hdone
  go_wp2_with fail
  go_ret
  have hD := HD.out
  refine ⟨rfl, ⟨vs, us, lo, ps, hD.row, ?_, hok1, .inl hd⟩, hD.only.mono fun k hk => by rw [hk]; exact hd⟩
  rw [hnow]
  refine hD.rest.mono (fun k hk => .inl hk) fun k hk => ?_
  rcases hk with h | h
  · exact hD.rest.lt k h
  · exact h.2
theorem sync_post {x x1 : D} (hop : x.op = (0, x1)) {w w2 : World} {F : Nat → Prop} {d : Nat} {vs us : Nat → Value} {lo : Value} {ps : List (Value × Value)} (hok : x.Ok) (hd : F d) (hD : OpDone w w2 F d x1 x.now vs us lo ps) (hnf : x.off = false) :
    Post F d { x1 with sure := x.now, loose := [] } w ((w2.setCells d 19 (row16 vs)).setCell ⟨d, 35, none⟩ (.slice none 0 0)) := by
  have hr2 := row_set16 (o := 19) hD.row vs
  have hr3 := hr2.set 35 (.slice none 0 0)
  have hon : Only (· = d) w ((w2.setCells d 19 (row16 vs)).setCell ⟨d, 35, none⟩ (.slice none 0 0)) := (hD.only.then (only_setCells d _ 19 w2)).then (Only.setCell _ d 35 _)
  have hsz : ((w2.setCells d 19 (row16 vs)).setCell ⟨d, 35, none⟩ (.slice none 0 0)).heap.size = w.heap.size := by
    rw [World.size_setCell, (setCells_world d _ 19 w2).2.2.2, hD.size]
  have hf : Fls ((w2.setCells d 19 (row16 vs)).setCell ⟨d, 35, none⟩ (.slice none 0 0)) vs x.now := by
    refine hD.rest.now.frame fun i hi g hg => ?_
    obtain ⟨cur, hc⟩ := (hD.rest.now.has i hi).kind hg
    obtain ⟨c, hd', _⟩ := hD.row
    have hne := kind_ne hc hd' (by decide)
    rw [heap_setCell_other _ _ _ _ hne, heap_setCells_other d _ 19 w2 g hne]
  refine ⟨⟨vs, vs, .slice none 0 0, [], ?_, ⟨hf, hf, hf.crs, World.ownsRow_nil _ _ _ _, rfl, fun k c p h => by simp at h, fun i hi g hg => .inl (hD.rest.fv i hi g hg), fun i hi g hg => .inl (hD.rest.fv i hi g hg), fun g hg => by simp [Value.ownBlock] at hg, fun k hk => ?_⟩, ?_, .inl hd⟩, hon.mono fun k hk => by rw [hk]; exact hd⟩
  · refine hr3.congr fun j hj => ?_
    by_cases e : j = 35
    · subst e; rw [if_pos rfl, cellsD_loose]
    · rw [if_neg e]
      by_cases h : 19 ≤ j ∧ j < 19 + 16
      · obtain ⟨i, rfl⟩ : ∃ i, j = 19 + i := ⟨j - 19, by omega⟩
        rw [with16_in (by omega), cellsD_sure i (by omega)]
      · rw [with16_out (by omega)]
        unfold cellsD
        by_cases h0 : j = 0
        · simp [h0]
        · by_cases h1 : j = 1
          · simp [h1]
          · by_cases h2 : j = 2
            · simp [h2]
            · simp only [h0, h1, h2, if_false]
              rw [if_pos (show j < 19 by omega), if_pos (show j < 19 by omega)]
  · rcases hk with h | h
    · rw [hsz]; have := hD.rest.lt k h; rw [hD.size] at this; exact this
    · exact h.2
  · have := D.sync_ok hok
    unfold D.sync at this
    rw [hop, hnf] at this
    exact this
set_option maxHeartbeats 800000 in
theorem sync_done {x x1 : D} (hop : x.op = (0, x1)) (ho : x.off = false) (w : World) (F : Nat → Prop) (d : Nat) (hx : IsDisk w F d x) : Calls Try.prog 26 #[ptr d 0] w fun e w' => e = .returned (.int .i64 0) ∧ Post F d { x1 with sure := x.now, loose := [] } w w' := by
  obtain ⟨vs, us, lo, ps, hr, hR, hok, hd⟩ := id hx
  have HC := Lib.hid (operate_at hop w F d x.now vs us lo ps hr hR hok.left1 hok.left2)
  have HX := Lib.hid hx
  have HS := Lib.hid (fun w2 (hD : OpDone w w2 F d x1 x.now vs us lo ps) => sync_post hop hok hd hD ho)
  have H1 := Lib.hid (fun w2 (hD : OpDone w w2 F d x1 x.now vs us lo ps) => range_of_row hD.row (by decide : 3 + 16 ≤ 36) fun i hi => cellsD_now i hi)
  have H2 := Lib.hid (fun w2 (hD : OpDone w w2 F d x1 x.now vs us lo ps) => there_of_row (m := 16) hD.row (by decide : 19 + 16 ≤ 36))
  have H3 := Lib.hid (fun w2 (hD : OpDone w w2 F d x1 x.now vs us lo ps) => fls_one hD.rest.now)
  have H4 := Lib.hid (fun w2 (hD : OpDone w w2 F d x1 x.now vs us lo ps) => (show ∃ w3, w3 = w2.setCells d 19 (row16 vs) ∧ w3.cell? ⟨d, 35, none⟩ = some lo ∧ w3.frozen? ⟨d, 35, none⟩ = false by
    have h := row_set16 (o := 19) hD.row vs
    exact ⟨_, rfl, by rw [h.cell (by omega), with16_out (by omega), cellsD_loose], h.frozen 35⟩))
  clear hr hop hok hR hx
  go_enter Try.func26, Try.ntmps26
  go_wp2_with fail
  with_reducible refine (refusal_zero HX.out ho).mono ?_
  rintro e w' ⟨rfl, rfl⟩
  go_wp2_with fail
  refine HC.out.mono ?_
  rintro e w2 ⟨rfl, hdone⟩
  have HD := Lib.hid hdone
  clear hdone
  go_wp2_with (first | (refine wpList_load_mid rfl 46 (.tmp 19) rfl d 3 rfl (row16 vs) _ (H1.out _ HD.out) Try.underlying46 rfl (by rw [row16_length]; exact info59) ?_) | (refine wpList_store_mid rfl 46 (.tmp 22) (.tmp 20) rfl d 19 (row16 vs).toArray rfl rfl (by rw [List.size_toArray, row16_length]; exact H2.out _ HD.out) (by rw [List.size_toArray, row16_length]; exact info59) (H3.out _ HD.out) ?_; simp only [List.toList_toArray]; obtain ⟨w3, e3, hc4, hf4⟩ := H4.out w2 HD.out; rw [← e3]; have E3 := Lib.hid e3; clear e3))
  go_ret
  have hp := HS.out _ HD.out
  rw [← E3.out] at hp
  exact ⟨rfl, hp⟩
theorem sync_at {x x2 : D} {E : Int} (h : x.sync = (E, x2)) (w : World) (F : Nat → Prop) (d : Nat) (hx : IsDisk w F d x) : Calls Try.prog 26 #[ptr d 0] w fun e w' => e = .returned (.int .i64 E) ∧ Post F d x2 w w' := by
  unfold D.sync at h
  by_cases h1 : x.off = true
  · rw [if_pos h1] at h
    obtain ⟨rfl, rfl⟩ := Prod.mk.inj h
    exact sync_off h1 w F d hx
  · rw [if_neg h1] at h
    have ho : x.off = false := by simpa using h1
    obtain ⟨E1, x1, hop⟩ : ∃ E1 x1, x.op = (E1, x1) := ⟨_, _, rfl⟩
    rw [hop] at h
    by_cases h0 : E1 = 0
    · subst h0
      rw [if_pos rfl] at h
      obtain ⟨rfl, rfl⟩ := Prod.mk.inj h
      exact sync_done hop ho w F d hx
    · rw [if_neg h0] at h
      obtain ⟨rfl, rfl⟩ := Prod.mk.inj h
      exact sync_gone hop h0 ho w F d hx
end Go.Proofs.Ytbnnbaoimidfnaa.dsk
