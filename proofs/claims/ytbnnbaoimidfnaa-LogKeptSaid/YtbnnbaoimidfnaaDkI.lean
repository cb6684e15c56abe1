/- What a disk's changes answer, and what they make of it. -/
import Derived.Test.YtbnnbaoimidfnaaDkH
import Derived.Deep.QuietTactic
namespace Go.Proofs.Ytbnnbaoimidfnaa.dsk
set_option linter.unusedSimpArgs false
set_option linter.unusedVariables false
open Go.RowKit

section
variable {w w1 w' : World} {F : Nat → Prop} {x x2 : D} {d : Nat}
theorem Post.same (h : IsDisk w F d x) (hb : Below w.heap.size w w') : Post F d x w w' :=
  ⟨(h.below hb).mono (fun k hk => .inl hk) fun k hk => by
    rcases hk with h1 | h1
    · have := h.lt h1; have := hb.size; omega
    · exact h1.2, .of_below hb⟩
theorem World.drewN_below {B : Nat} {a b : World} (h : Below B a b) (n : Nat) : Below B a (b.drewN n) := by
  have e : (b.drewN n).heap = b.heap ∧ (b.drewN n).os = b.os ∧ (b.drewN n).tape = b.tape ∧ (b.drewN n).output = b.output := ⟨rfl, rfl, rfl, rfl⟩
  exact ⟨e.2.1.trans h.os, e.2.2.1.trans h.tape, e.2.2.2.trans h.output, by rw [e.1]; exact h.size, fun k hk => by rw [e.1]; exact h.block k hk⟩
theorem Post.after (hb : Below w.heap.size w w1) (h : IsDisk w F d x) (p : Post (Grow F w w1) d x2 w1 w') : Post F d x2 w w' := by
  have h1 := hb.size
  have h2 := p.only.size
  refine ⟨p.disk.mono (fun k hk => ?_) fun k hk => ?_, (Only.of_below hb).trans p.only fun k hk hlt => ?_⟩
  · rcases hk with (h | ⟨a, b⟩) | ⟨a, b⟩
    · exact .inl h
    · exact .inr ⟨a, by omega⟩
    · exact .inr ⟨by omega, b⟩
  · rcases hk with h3 | ⟨a, b⟩
    · have := h.lt h3; omega
    · exact b
  · rcases hk with h3 | ⟨a, b⟩
    · exact h3
    · omega
end
theorem change_at {x x2 : D} {E : Int} {c : Chg} (h : x.chg c = (E, x2)) (w : World) (F : Nat → Prop) (d : Nat) (v1 v2 : Value) (hx : IsDisk w F d x) (hc : IsChg w F c v1 v2) (hk : ok x.room x.now c) (hlen : x.loose.length ≤ 1099511627776) :
    Calls Try.prog 35 #[ptr d 0, .agg #[v1, v2]] w fun e w' => e = .returned (.int .i64 E) ∧ Post F d x2 w w' := by
  unfold D.chg at h
  obtain ⟨E1, x1, hop⟩ : ∃ E1 x1, x.op = (E1, x1) := ⟨_, _, rfl⟩
  rw [hop] at h
  by_cases h0 : E1 = 0
  · subst h0
    rw [if_pos rfl] at h
    obtain ⟨rfl, rfl⟩ := Prod.mk.inj h
    exact change_on hop w F d c v1 v2 hx hc hk hlen
  · rw [if_neg h0] at h
    obtain ⟨rfl, rfl⟩ := Prod.mk.inj h
    exact change_off hop h0 w F d v1 v2 hx

theorem IsDisk.cell0 {w : World} {F : Nat → Prop} {d : Nat} {x : D} (h : IsDisk w F d x) : w.cell? ⟨d, 0, none⟩ = some (.int .i64 x.room) := by
  obtain ⟨vs, us, lo, ps, hr, _⟩ := h
  rw [hr.cell (by omega)]; rfl
theorem IsDisk.cell1 {w : World} {F : Nat → Prop} {d : Nat} {x : D} (h : IsDisk w F d x) : w.cell? ⟨d, 1, none⟩ = some (.bool x.off) := by
  obtain ⟨vs, us, lo, ps, hr, _⟩ := h
  rw [hr.cell (by omega)]; rfl
theorem refusal_one {w : World} {F : Nat → Prop} {d : Nat} {x : D} (h : IsDisk w F d x) (ho : x.off = false) (i : Int) {w1 : World} (hb : Below w.heap.size w w1) (b : Nat) (hc : w1.cell? ⟨b, 0, none⟩ = some (.int .i64 i)) :
    Calls Try.prog 27 #[ptr d 0, .slice (some ⟨b, 0, none⟩) 1 1] w1 fun e w' => e = .returned (.int .i64 (if isFile i = true then 0 else 2)) ∧ w1 = w' := by
  have h1 := (h.below hb).cell1
  rw [ho] at h1
  have := refusal_any d [i] w1 (some ⟨b, 0, none⟩) 1 h1 (fun _ => ⟨b, rfl, fun j hj => by
    obtain rfl : j = 0 := by simp at hj; omega
    exact hc⟩) (by simp)
  simpa [allFiles] using this
theorem refusal_file {w : World} {F : Nat → Prop} {d : Nat} {x : D} (h : IsDisk w F d x) (ho : x.off = false) {i : Int} (hi : isFile i = true) {w1 : World} (hb : Below w.heap.size w w1) (b : Nat) (hc : w1.cell? ⟨b, 0, none⟩ = some (.int .i64 i)) :
    Calls Try.prog 27 #[ptr d 0, .slice (some ⟨b, 0, none⟩) 1 1] w1 fun e w' => e = .returned (.int .i64 0) ∧ w1 = w' := by
  have := refusal_one h ho i hb b hc
  rwa [if_pos hi] at this
theorem refusal_not {w : World} {F : Nat → Prop} {d : Nat} {x : D} (h : IsDisk w F d x) (ho : x.off = false) {i : Int} (hi : isFile i = false) {w1 : World} (hb : Below w.heap.size w w1) (b : Nat) (hc : w1.cell? ⟨b, 0, none⟩ = some (.int .i64 i)) :
    Calls Try.prog 27 #[ptr d 0, .slice (some ⟨b, 0, none⟩) 1 1] w1 fun e w' => e = .returned (.int .i64 2) ∧ w1 = w' := by
  have := refusal_one h ho i hb b hc
  rwa [if_neg (by rw [hi]; decide)] at this
theorem refusal_off_at {w : World} {F : Nat → Prop} {d : Nat} {x : D} (h : IsDisk w F d x) (ho : x.off = true) {w1 : World} (hb : Below w.heap.size w w1) (a : Option Addr) (n cap : Nat) :
    Calls Try.prog 27 #[ptr d 0, .slice a n cap] w1 fun e w' => e = .returned (.int .i64 50) ∧ w1 = w' := by
  have h1 := (h.below hb).cell1
  rw [ho] at h1
  exact refusal_off d w1 a n cap h1
theorem left_at {w : World} {F : Nat → Prop} {d : Nat} {x : D} (h : IsDisk w F d x) {w1 : World} (hb : Below w.heap.size w w1) {r : Int} (hr' : x.room' = r) :
    Calls Try.prog 33 #[ptr d 0] w1 fun e w' => e = .returned (.int .i64 r) ∧ w1 = w' := by
  obtain ⟨vs, us, lo, ps, hr, hR, hok, hd⟩ := h.below hb
  subst hr'
  exact left_any d x.room vs x.now w1 (by rw [hr.cell (by omega)]; rfl) (range_of_row hr (by omega) fun i hi => cellsD_now i hi) (fun i hi => (hR.now.has i hi).len) hok.room2 hok.now

theorem cell_at2 (w : World) (A B : Obj) (u : Value) (T : TypeId) : (((w.alloc A).alloc B).alloc (.cells #[u] T)).cell? ⟨w.heap.size + 2, 0, none⟩ = some u := by
  have := heap_alloc_new ((w.alloc A).alloc B) (.cells #[u] T)
  rw [World.size_alloc, World.size_alloc] at this
  rw [cell_of_row _ _ _ _ _ _ this]; rfl
set_option maxHeartbeats 800000 in
theorem append_off {x : D} (ho : x.off = true) (i : Int) (s : ByteArray) (w : World) (F : Nat → Prop) (d : Nat) (hx : IsDisk w F d x) :
    Calls Try.prog 24 #[ptr d 0, .int .i64 i, .string s] w fun e w' => e = .returned (.int .i64 50) ∧ Post F d x w w' := by
  go_enter Try.func24, Try.ntmps24
  go_wp2_with fail
  with_reducible refine (refusal_off_at hx ho ((((Below.refl _ w).alloc (Nat.le_refl _) _).alloc (by simp) _).alloc (by simp; omega) _) _ _ _).mono ?_
  rintro e w' ⟨rfl, rfl⟩
  go_wp2_with fail
  go_ret
  exact ⟨rfl, Post.same hx ((((Below.refl _ w).alloc (Nat.le_refl _) _).alloc (by simp) _).alloc (by simp; omega) _)⟩

set_option maxHeartbeats 800000 in
theorem append_none {x : D} (ho : x.off = false) (i : Int) (hi : isFile i = false) (s : ByteArray) (w : World) (F : Nat → Prop) (d : Nat) (hx : IsDisk w F d x) :
    Calls Try.prog 24 #[ptr d 0, .int .i64 i, .string s] w fun e w' => e = .returned (.int .i64 2) ∧ Post F d x w w' := by
  have HB := Lib.hid ((((Below.refl w.heap.size w).alloc (Nat.le_refl _) (.cells #[.int .i64 i] 3)).alloc (by simp) (.cells #[.string s] 9)).alloc (by simp; omega) (.cells #[.int .i64 i] 3))
  have HC := Lib.hid (refusal_not hx ho hi HB.out (w.heap.size + 2) (cell_at2 _ _ _ _ _))
  go_enter Try.func24, Try.ntmps24
  go_wp2_with fail
  with_reducible refine HC.out.mono ?_
  rintro e w' ⟨rfl, rfl⟩
  go_wp2_with fail
  go_ret
  exact ⟨rfl, Post.same hx HB.out⟩
set_option maxHeartbeats 1600000 in
theorem append_full {x : D} (ho : x.off = false) (i : Int) (hi : isFile i = true) (s : ByteArray) (r : Int) (hr : x.room' = r) (hs : r < s.size) (w : World) (F : Nat → Prop) (d : Nat) (hx : IsDisk w F d x) :
    Calls Try.prog 24 #[ptr d 0, .int .i64 i, .string s] w fun e w' => e = .returned (.int .i64 7) ∧ Post F d x w w' := by
  have HB := Lib.hid ((((Below.refl w.heap.size w).alloc (Nat.le_refl _) (.cells #[.int .i64 i] 3)).alloc (by simp) (.cells #[.string s] 9)).alloc (by simp; omega) (.cells #[.int .i64 i] 3))
  have HC := Lib.hid (refusal_file hx ho hi HB.out (w.heap.size + 2) (cell_at2 _ _ _ _ _))
  have HL := Lib.hid (fun n => (left_at hx (World.drewN_below HB.out n) hr).mono (R' := fun e w' => e = .returned (.int .i64 r) ∧ w' = _) fun e w' h => ⟨h.1, h.2.symm⟩)
  go_enter Try.func24, Try.ntmps24
  go_wp2_with fail
  with_reducible refine HC.out.mono ?_
  rintro e w' ⟨rfl, rfl⟩
  go_wp2_with fail
  go_quiet ((go_at_call 33; exact Calls.quiet_of_same (HL.out _)))
  go_wp2_with fail
  go_ret
  exact ⟨rfl, Post.same hx (World.drewN_below HB.out _)⟩
/-- The blocks that Append lays. -/
def appW (w : World) (i : Int) (s : ByteArray) (n : Nat) : World :=
  ((((w.alloc (.cells #[.int .i64 i] 3)).alloc (.cells #[.string s] 9)).alloc (.cells #[.int .i64 i] 3)).drewN n).alloc (.cells #[.func (.func 34) #[] #[ptr w.heap.size 0, ptr (w.heap.size + 1) 0]] 67)
theorem app_below (w : World) (i : Int) (s : ByteArray) (n : Nat) : Below w.heap.size w (appW w i s n) :=
  (World.drewN_below ((((Below.refl w.heap.size w).alloc (Nat.le_refl _) (.cells #[.int .i64 i] 3)).alloc (by simp) (.cells #[.string s] 9)).alloc (by simp; omega) (.cells #[.int .i64 i] 3)) n).alloc (by
    show w.heap.size ≤ (((w.alloc (.cells #[.int .i64 i] 3)).alloc (.cells #[.string s] 9)).alloc (.cells #[.int .i64 i] 3)).heap.size
    simp; omega) _
theorem app_chg (w : World) (F : Nat → Prop) (i : Nat) (s : ByteArray) (n : Nat) :
    IsChg (appW w i s n) (Grow F w (appW w i s n)) (.app i s) (.func (.func 36) #[] #[ptr (w.heap.size + 1 + 1 + 1) 0, ptr (w.heap.size + 1) 0]) (.func (.func 34) #[] #[ptr w.heap.size 0, ptr (w.heap.size + 1) 0]) := by
  have hsz : (appW w i s n).heap.size = w.heap.size + 4 := by
    show ((((w.alloc _).alloc _).alloc _).heap.push _).size = _
    simp
  have h0 := heap_alloc_new w (.cells #[.int .i64 i] 3)
  have h1 := heap_alloc_new (w.alloc (.cells #[.int .i64 i] 3)) (.cells #[.string s] 9)
  rw [World.size_alloc] at h1
  have lift : ∀ (k : Nat) (o : Obj), (((w.alloc (.cells #[.int .i64 i] 3)).alloc (.cells #[.string s] 9)).alloc (.cells #[.int .i64 i] 3)).heap[k]? = some o → (appW w i s n).heap[k]? = some o := fun k o hk => by
    have hlt := (Array.getElem?_eq_some_iff.1 hk).1
    exact (heap_alloc_old ((((w.alloc (.cells #[.int .i64 i] 3)).alloc (.cells #[.string s] 9)).alloc (.cells #[.int .i64 i] 3)).drewN n) _ hlt).trans hk
  refine ⟨w.heap.size + 1 + 1 + 1, w.heap.size + 1, w.heap.size, rfl, rfl, ⟨?_, .inr ⟨by omega, by omega⟩⟩, ⟨?_, .inr ⟨by omega, by omega⟩⟩, ⟨?_, .inr ⟨by omega, by omega⟩⟩⟩
  · have := heap_alloc_new ((((w.alloc (.cells #[.int .i64 i] 3)).alloc (.cells #[.string s] 9)).alloc (.cells #[.int .i64 i] 3)).drewN n) (.cells #[.func (.func 34) #[] #[ptr w.heap.size 0, ptr (w.heap.size + 1) 0]] 67)
    have e : ((((w.alloc (.cells #[.int .i64 i] 3)).alloc (.cells #[.string s] 9)).alloc (.cells #[.int .i64 i] 3)).drewN n).heap.size = w.heap.size + 1 + 1 + 1 := by
      show (((w.alloc _).alloc _).alloc _).heap.size = _
      simp
    rw [e] at this
    exact this
  · exact lift _ _ ((heap_alloc_old _ _ (by simp)).trans h1)
  · exact lift _ _ ((heap_alloc_old _ _ (by simp; omega)).trans ((heap_alloc_old _ _ (by simp)).trans h0))
set_option maxHeartbeats 1600000 in
theorem append_done {x x2 : D} {E : Int} (ho : x.off = false) (i : Nat) (hi : i < 16) (s : ByteArray) (r : Int) (hr : x.room' = r) (hs : (s.size : Int) ≤ r) (hch : x.chg (.app i s) = (E, x2)) (w : World) (F : Nat → Prop) (d : Nat) (hx : IsDisk w F d x) (hlen : x.loose.length ≤ 1099511627776) :
    Calls Try.prog 24 #[ptr d 0, .int .i64 i, .string s] w fun e w' => e = .returned (.int .i64 E) ∧ Post F d x2 w w' := by
  have HB := Lib.hid ((((Below.refl w.heap.size w).alloc (Nat.le_refl _) (.cells #[.int .i64 i] 3)).alloc (by simp) (.cells #[.string s] 9)).alloc (by simp; omega) (.cells #[.int .i64 i] 3))
  have HC := Lib.hid (refusal_file hx ho (isFile_iff.2 ⟨by omega, by omega⟩) HB.out (w.heap.size + 2) (cell_at2 _ _ _ _ _))
  have HL := Lib.hid (fun n => (left_at hx (World.drewN_below HB.out n) hr).mono (R' := fun e w' => e = .returned (.int .i64 r) ∧ w' = _) fun e w' h => ⟨h.1, h.2.symm⟩)
  have hok := hx.ok
  have hk : ok x.room x.now (.app i s) := ⟨hi, by unfold D.room' at hr; omega⟩
  have HCH := Lib.hid (fun n => change_at hch (appW w i s n) (Grow F w (appW w i s n)) d _ _ ((hx.below (app_below w i s n)).mono (fun k h => .inl h) (fun k h => by
    rcases h with h | h
    · have := hx.lt h; have := (app_below w i s n).size; omega
    · exact h.2)) (app_chg w F i s n) hk hlen)
  have hd : decide (r < (s.size : Int)) = false := by simp; omega
  clear hk hok hch
  go_enter Try.func24, Try.ntmps24
  go_wp2_with fail
  with_reducible refine HC.out.mono ?_
  rintro e w' ⟨rfl, rfl⟩
  go_wp2_with fail
  go_quiet ((go_at_call 33; exact Calls.quiet_of_same (HL.out _)))
  go_wp2_with fail
  refine (HCH.out nq).mono ?_
  rintro e w' ⟨rfl, hp⟩
  have HP := Lib.hid hp
  clear hp
  go_wp2_with fail
  go_ret
  exact ⟨rfl, Post.after (app_below w i s nq) hx HP.out⟩
end Go.Proofs.Ytbnnbaoimidfnaa.dsk
