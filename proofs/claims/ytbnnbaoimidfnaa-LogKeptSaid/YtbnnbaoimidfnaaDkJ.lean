/- What Append, Cut and Move answer, in one word each. -/
import Derived.Test.YtbnnbaoimidfnaaDkI
namespace Go.Proofs.Ytbnnbaoimidfnaa.dsk
set_option linter.unusedSimpArgs false
set_option linter.unusedVariables false
open Go.RowKit

theorem append_at {x x2 : D} {E i : Int} {s : ByteArray} (h : x.append i s = (E, x2)) (w : World) (F : Nat → Prop) (d : Nat) (hx : IsDisk w F d x) (hlen : x.loose.length ≤ 1099511627776) :
    Calls Try.prog 24 #[ptr d 0, .int .i64 i, .string s] w fun e w' => e = .returned (.int .i64 E) ∧ Post F d x2 w w' := by
  unfold D.append at h
  by_cases h1 : x.off = true
  · rw [if_pos h1] at h
    obtain ⟨rfl, rfl⟩ := Prod.mk.inj h
    exact append_off h1 i s w F d hx
  · rw [if_neg h1] at h
    have ho : x.off = false := by simpa using h1
    by_cases h2 : isFile i = false
    · rw [if_pos h2] at h
      obtain ⟨rfl, rfl⟩ := Prod.mk.inj h
      exact append_none ho i h2 s w F d hx
    · rw [if_neg h2] at h
      have hf : isFile i = true := by simpa using h2
      by_cases h3 : x.room' < (s.size : Int)
      · rw [if_pos h3] at h
        obtain ⟨rfl, rfl⟩ := Prod.mk.inj h
        exact append_full ho i hf s _ rfl h3 w F d hx
      · rw [if_neg h3] at h
        have hi := isFile_iff.1 hf
        obtain ⟨j, rfl⟩ : ∃ j : Nat, i = j := ⟨i.toNat, by omega⟩
        exact append_done ho j (by omega) s _ rfl (by omega) (by simpa using h) w F d hx hlen

theorem IsDisk.file {w : World} {F : Nat → Prop} {d : Nat} {x : D} (h : IsDisk w F d x) {i : Nat} (hi : i < 16) : ∃ a cap, w.cell? ⟨d, 3 + i, none⟩ = some (.slice a (x.now i).size cap) ∧ Has w (.slice a (x.now i).size cap) (x.now i) := by
  obtain ⟨vs, us, lo, ps, hr, hR, hok, hd⟩ := h
  obtain ⟨a, cap, ev⟩ := (hR.now.has i hi).len
  refine ⟨a, cap, ?_, ?_⟩
  · rw [hr.cell (by omega), cellsD_now i hi, ev]
  · rw [← ev]; exact hR.now.has i hi

/-- The blocks that Cut and Move lay for their numbers. -/
def two (w : World) (i j : Int) : World := (w.alloc (.cells #[.int .i64 i] 3)).alloc (.cells #[.int .i64 j] 3)
theorem below2 (w : World) (A B : Obj) : Below w.heap.size w ((w.alloc A).alloc B) := ((Below.refl w.heap.size w).alloc (Nat.le_refl _) A).alloc (by simp) B
theorem below3 (w : World) (A B C : Obj) : Below w.heap.size w (((w.alloc A).alloc B).alloc C) := (below2 w A B).alloc (by simp; omega) C

set_option maxHeartbeats 800000 in
theorem cut_off {x : D} (ho : x.off = true) (i n : Int) (w : World) (F : Nat → Prop) (d : Nat) (hx : IsDisk w F d x) :
    Calls Try.prog 25 #[ptr d 0, .int .i64 i, .int .i64 n] w fun e w' => e = .returned (.int .i64 50) ∧ Post F d x w w' := by
  go_enter Try.func25, Try.ntmps25
  go_wp2_with fail
  with_reducible refine (refusal_off_at hx ho (below3 w _ _ _) _ _ _).mono ?_
  rintro e w' ⟨rfl, rfl⟩
  go_wp2_with fail
  go_ret
  exact ⟨rfl, Post.same hx (below3 w _ _ _)⟩
set_option maxHeartbeats 800000 in
theorem cut_none {x : D} (ho : x.off = false) (i n : Int) (hi : isFile i = false) (w : World) (F : Nat → Prop) (d : Nat) (hx : IsDisk w F d x) :
    Calls Try.prog 25 #[ptr d 0, .int .i64 i, .int .i64 n] w fun e w' => e = .returned (.int .i64 2) ∧ Post F d x w w' := by
  have HC := Lib.hid (refusal_not hx ho hi (below3 w (.cells #[.int .i64 i] 3) (.cells #[.int .i64 n] 3) (.cells #[.int .i64 i] 3)) (w.heap.size + 2) (cell_at2 _ _ _ _ _))
  go_enter Try.func25, Try.ntmps25
  go_wp2_with fail
  with_reducible refine HC.out.mono ?_
  rintro e w' ⟨rfl, rfl⟩
  go_wp2_with fail
  go_ret
  exact ⟨rfl, Post.same hx (below3 w _ _ _)⟩
set_option maxHeartbeats 1600000 in
theorem cut_range {x : D} (ho : x.off = false) (i : Nat) (n : Int) (hi : i < 16) (hn : n < 0 ∨ ((x.now i).size : Int) < n) (w : World) (F : Nat → Prop) (d : Nat) (hx : IsDisk w F d x) :
    Calls Try.prog 25 #[ptr d 0, .int .i64 i, .int .i64 n] w fun e w' => e = .returned (.int .i64 5) ∧ Post F d x w w' := by
  have HC := Lib.hid (refusal_file hx ho (isFile_iff.2 ⟨by omega, by omega⟩) (below3 w (.cells #[.int .i64 i] 3) (.cells #[.int .i64 n] 3) (.cells #[.int .i64 i] 3)) (w.heap.size + 2) (cell_at2 _ _ _ _ _))
  obtain ⟨a, cap, hc, _⟩ := (hx.below (below3 w (.cells #[.int .i64 i] 3) (.cells #[.int .i64 n] 3) (.cells #[.int .i64 i] 3))).file hi
  obtain ⟨z, hz⟩ : ∃ z, (x.now i).size = z := ⟨_, rfl⟩
  rw [hz] at hc hn
  clear hz
  have hi0 : (0 : Int) ≤ (i : Int) := by omega
  have hi1 : (i : Int) < 16 := by omega
  by_cases hneg : n < 0
  · clear hn
    go_enter Try.func25, Try.ntmps25
    go_wp2_with fail
    with_reducible refine HC.out.mono ?_
    rintro e w' ⟨rfl, rfl⟩
    go_wp2_with fail
    go_quiet (fail)
    go_wp2_with fail
    go_ret
    exact ⟨rfl, Post.same hx (World.drewN_below (below3 w _ _ _) _)⟩
  · have hn' : (z : Int) < n := by omega
    have hd : decide (n < 0) = false := by simp; omega
    clear hn
    go_enter Try.func25, Try.ntmps25
    go_wp2_with fail
    with_reducible refine HC.out.mono ?_
    rintro e w' ⟨rfl, rfl⟩
    go_wp2_with fail
    go_quiet (fail)
    go_wp2_with fail
    go_ret
    exact ⟨rfl, Post.same hx (World.drewN_below (below3 w _ _ _) _)⟩
/-- The world in which the change is made. -/
def cutW (w : World) (i n : Int) (m : Nat) : World := (((w.alloc (.cells #[.int .i64 i] 3)).alloc (.cells #[.int .i64 n] 3)).alloc (.cells #[.int .i64 i] 3)).drewN m
theorem cutW_below (w : World) (i n : Int) (m : Nat) : Below w.heap.size w (cutW w i n m) := World.drewN_below (below3 w _ _ _) m
theorem cut_chg (w : World) (F : Nat → Prop) (i n m : Nat) : IsChg (cutW w i n m) (Grow F w (cutW w i n m)) (.cut i n) (.func (.func 37) #[] #[ptr w.heap.size 0, ptr (w.heap.size + 1) 0]) .nilFunc := by
  have hsz : (cutW w i n m).heap.size = w.heap.size + 3 := by
    show (((w.alloc _).alloc _).alloc _).heap.size = _
    simp
  have h0 := heap_alloc_new w (.cells #[.int .i64 i] 3)
  have h1 := heap_alloc_new (w.alloc (.cells #[.int .i64 i] 3)) (.cells #[.int .i64 n] 3)
  rw [World.size_alloc] at h1
  refine ⟨w.heap.size, w.heap.size + 1, rfl, rfl, ⟨?_, .inr ⟨by omega, by omega⟩⟩, ⟨?_, .inr ⟨by omega, by omega⟩⟩⟩
  · exact (heap_alloc_old _ _ (by simp; omega)).trans ((heap_alloc_old _ _ (by simp)).trans h0)
  · exact (heap_alloc_old _ _ (by simp)).trans h1
theorem grown_disk {w w1 : World} {F : Nat → Prop} {d : Nat} {x : D} (hx : IsDisk w F d x) (hb : Below w.heap.size w w1) : IsDisk w1 (Grow F w w1) d x :=
  (hx.below hb).mono (fun k h => .inl h) (fun k h => by
    rcases h with h | h
    · have := hx.lt h; have := hb.size; omega
    · exact h.2)
set_option maxHeartbeats 1600000 in
theorem cut_done {x x2 : D} {E : Int} (ho : x.off = false) (i n : Nat) (hi : i < 16) (hn : n ≤ (x.now i).size) (hch : x.chg (.cut i n) = (E, x2)) (w : World) (F : Nat → Prop) (d : Nat) (hx : IsDisk w F d x) (hlen : x.loose.length ≤ 1099511627776) :
    Calls Try.prog 25 #[ptr d 0, .int .i64 i, .int .i64 n] w fun e w' => e = .returned (.int .i64 E) ∧ Post F d x2 w w' := by
  have HC := Lib.hid (refusal_file hx ho (isFile_iff.2 ⟨by omega, by omega⟩) (below3 w (.cells #[.int .i64 i] 3) (.cells #[.int .i64 n] 3) (.cells #[.int .i64 i] 3)) (w.heap.size + 2) (cell_at2 _ _ _ _ _))
  obtain ⟨a, cap, hc, _⟩ := (hx.below (below3 w (.cells #[.int .i64 i] 3) (.cells #[.int .i64 n] 3) (.cells #[.int .i64 i] 3))).file hi
  have HCH := Lib.hid (fun m => change_at hch (cutW w i n m) (Grow F w (cutW w i n m)) d _ _ (grown_disk hx (cutW_below w i n m)) (cut_chg w F i n m) ⟨hi, hn⟩ hlen)
  obtain ⟨z, hz⟩ : ∃ z, (x.now i).size = z := ⟨_, rfl⟩
  rw [hz] at hc hn
  clear hz hch
  have hi0 : (0 : Int) ≤ (i : Int) := by omega
  have hi1 : (i : Int) < 16 := by omega
  have hd : decide ((n : Int) < 0) = false := by simp
  have hn0 : (0 : Int) ≤ (n : Int) := by omega
  have hn' : (n : Int) ≤ (z : Int) := by omega
  go_enter Try.func25, Try.ntmps25
  go_wp2_with fail
  with_reducible refine HC.out.mono ?_
  rintro e w' ⟨rfl, rfl⟩
  go_wp2_with fail
  go_quiet (fail)
  go_wp2_with fail
  refine (HCH.out nq).mono ?_
  rintro e w' ⟨rfl, hp⟩
  have HP := Lib.hid hp
  clear hp
  go_wp2_with fail
  go_ret
  exact ⟨rfl, Post.after (cutW_below w i n nq) hx HP.out⟩
theorem cut_at {x x2 : D} {E i n : Int} (h : x.cut i n = (E, x2)) (w : World) (F : Nat → Prop) (d : Nat) (hx : IsDisk w F d x) (hlen : x.loose.length ≤ 1099511627776) :
    Calls Try.prog 25 #[ptr d 0, .int .i64 i, .int .i64 n] w fun e w' => e = .returned (.int .i64 E) ∧ Post F d x2 w w' := by
  unfold D.cut at h
  by_cases h1 : x.off = true
  · rw [if_pos h1] at h
    obtain ⟨rfl, rfl⟩ := Prod.mk.inj h
    exact cut_off h1 i n w F d hx
  · rw [if_neg h1] at h
    have ho : x.off = false := by simpa using h1
    by_cases h2 : isFile i = false
    · rw [if_pos h2] at h
      obtain ⟨rfl, rfl⟩ := Prod.mk.inj h
      exact cut_none ho i n h2 w F d hx
    · rw [if_neg h2] at h
      have hi := isFile_iff.1 (show isFile i = true by simpa using h2)
      obtain ⟨j, rfl⟩ : ∃ j : Nat, i = j := ⟨i.toNat, by omega⟩
      rw [Int.toNat_natCast] at h
      by_cases h3 : n < 0 ∨ ((x.now j).size : Int) < n
      · rw [if_pos h3] at h
        obtain ⟨rfl, rfl⟩ := Prod.mk.inj h
        exact cut_range ho j n (by omega) h3 w F d hx
      · rw [if_neg h3] at h
        obtain ⟨k, rfl⟩ : ∃ k : Nat, n = k := ⟨n.toNat, by omega⟩
        rw [Int.toNat_natCast] at h
        exact cut_done ho j k (by omega) (by omega) h w F d hx hlen

end Go.Proofs.Ytbnnbaoimidfnaa.dsk
