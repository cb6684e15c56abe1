/- What New, Sync, Read, Power, On, Loose and Left answer of a disk. -/
import Derived.Test.YtbnnbaoimidfnaaDkJ
namespace Go.Proofs.Ytbnnbaoimidfnaa.dsk
set_option linter.unusedSimpArgs false
set_option linter.unusedVariables false
open Go.RowKit

theorem new_bad (n : Int) (h : n < 1 ∨ 4194304 < n) (w : World) : Calls Try.prog 7 #[.int .i64 n] w fun e w' => e = .returned (.tuple #[.pointer none, .int .i64 2]) ∧ w = w' := by
  by_cases h1 : n < 1
  · clear h
    go_enter Try.func7, Try.ntmps7
    go_wp2
    go_ret2
    exact ⟨rfl, rfl⟩
  · have h2 : 4194304 < n := by omega
    have hd : decide (n < 1) = false := by simp; omega
    clear h
    go_enter Try.func7, Try.ntmps7
    go_wp2
    go_ret2
    exact ⟨rfl, rfl⟩
theorem fresh_disk (w : World) (n : Nat) (h1 : 1 ≤ n) (h2 : n ≤ 4194304) : IsDisk (w.alloc (.cells #[.int .i64 n, .bool false, .int .i64 (-1), .slice none 0 0, .slice none 0 0, .slice none 0 0, .slice none 0 0, .slice none 0 0, .slice none 0 0, .slice none 0 0, .slice none 0 0, .slice none 0 0, .slice none 0 0, .slice none 0 0, .slice none 0 0, .slice none 0 0, .slice none 0 0, .slice none 0 0, .slice none 0 0, .slice none 0 0, .slice none 0 0, .slice none 0 0, .slice none 0 0, .slice none 0 0, .slice none 0 0, .slice none 0 0, .slice none 0 0, .slice none 0 0, .slice none 0 0, .slice none 0 0, .slice none 0 0, .slice none 0 0, .slice none 0 0, .slice none 0 0, .slice none 0 0, .slice none 0 0] 49)) (· = w.heap.size) w.heap.size (D.fresh n) := by
  have hr : (w.alloc (.cells #[.int .i64 n, .bool false, .int .i64 (-1), .slice none 0 0, .slice none 0 0, .slice none 0 0, .slice none 0 0, .slice none 0 0, .slice none 0 0, .slice none 0 0, .slice none 0 0, .slice none 0 0, .slice none 0 0, .slice none 0 0, .slice none 0 0, .slice none 0 0, .slice none 0 0, .slice none 0 0, .slice none 0 0, .slice none 0 0, .slice none 0 0, .slice none 0 0, .slice none 0 0, .slice none 0 0, .slice none 0 0, .slice none 0 0, .slice none 0 0, .slice none 0 0, .slice none 0 0, .slice none 0 0, .slice none 0 0, .slice none 0 0, .slice none 0 0, .slice none 0 0, .slice none 0 0, .slice none 0 0] 49)).rowIs w.heap.size 49 36 (cellsD n false (-1) (fun _ => .slice none 0 0) (fun _ => .slice none 0 0) (.slice none 0 0)) := by
    have e : (#[.int .i64 n, .bool false, .int .i64 (-1), .slice none 0 0, .slice none 0 0, .slice none 0 0, .slice none 0 0, .slice none 0 0, .slice none 0 0, .slice none 0 0, .slice none 0 0, .slice none 0 0, .slice none 0 0, .slice none 0 0, .slice none 0 0, .slice none 0 0, .slice none 0 0, .slice none 0 0, .slice none 0 0, .slice none 0 0, .slice none 0 0, .slice none 0 0, .slice none 0 0, .slice none 0 0, .slice none 0 0, .slice none 0 0, .slice none 0 0, .slice none 0 0, .slice none 0 0, .slice none 0 0, .slice none 0 0, .slice none 0 0, .slice none 0 0, .slice none 0 0, .slice none 0 0, .slice none 0 0] : Array Value) = ((List.range 36).map (cellsD n false (-1) (fun _ => .slice none 0 0) (fun _ => .slice none 0 0) (.slice none 0 0))).toArray := rfl
    refine World.rowIs_alloc w _ 49 _ fun i hi => ?_
    have hi' : i < 36 := hi
    rw [e, List.getElem?_toArray, List.getElem?_map, List.getElem?_range hi']
    rfl
  refine ⟨_, _, _, [], hr, ⟨Fls.nil _, Fls.nil _, (Fls.nil w).crs, World.ownsRow_nil _ _ _ _, rfl, fun k c p h => by simp [D.fresh] at h, fun i _ g h => by simp [Value.ownBlock] at h, fun i _ g h => by simp [Value.ownBlock] at h, fun g h => by simp [Value.ownBlock] at h, fun k hk => by rw [hk]; simp⟩, D.fresh_ok h1 h2, rfl⟩
def NewPost (n : Nat) (w : World) (e : Ending) (w' : World) : Prop :=
  e = .returned (.tuple #[ptr w.heap.size 0, .int .i64 0]) ∧ IsDisk w' (· = w.heap.size) w.heap.size (D.fresh n) ∧ Below w.heap.size w w' ∧ w'.heap.size = w.heap.size + 1
set_option maxRecDepth 100000 in
theorem new_good (n : Nat) (h1 : 1 ≤ n) (h2 : n ≤ 4194304) (w : World) : Calls Try.prog 7 #[.int .i64 n] w (NewPost n w) := by
  have HF := Lib.hid (fresh_disk w n h1 h2)
  have h1' : (1 : Int) ≤ (n : Int) := by omega
  have h2' : (n : Int) ≤ 4194304 := by omega
  go_enter Try.func7, Try.ntmps7
  go_wp2
  go_ret2
  exact ⟨rfl, HF.out, (Below.refl _ w).alloc (Nat.le_refl _) _, by simp⟩
theorem room_at {w : World} {F : Nat → Prop} {d : Nat} {x : D} (h : IsDisk w F d x) {r : Int} (hr : x.room' = r) : Calls Try.prog 33 #[ptr d 0] w fun e w' => e = .returned (.int .i64 r) ∧ w = w' := left_at h (Below.refl _ _) hr

theorem refusal_zero {w : World} {F : Nat → Prop} {d : Nat} {x : D} (h : IsDisk w F d x) (ho : x.off = false) : Calls Try.prog 27 #[ptr d 0, .slice none 0 0] w fun e w' => e = .returned (.int .i64 0) ∧ w = w' := by
  have h1 := h.cell1
  rw [ho] at h1
  exact refusal_any d [] w none 0 h1 (fun h => absurd rfl h) (by simp)

set_option maxHeartbeats 800000 in
theorem power_at {x x2 : D} {E n : Int} (h : x.power n = (E, x2)) (hn : n ≤ 9223372036854775807) (w : World) (F : Nat → Prop) (d : Nat) (hx : IsDisk w F d x) :
    Calls Try.prog 16 #[ptr d 0, .int .i64 n] w fun e w' => e = .returned (.int .i64 E) ∧ Post F d x2 w w' := by
  have hok2 : x2.Ok := by have := D.power_ok hx.ok hn; rw [h] at this; exact this
  unfold D.power at h
  by_cases h1 : x.off = true
  · rw [if_pos h1] at h
    obtain ⟨rfl, rfl⟩ := Prod.mk.inj h
    go_enter Try.func16, Try.ntmps16
    go_wp2_with fail
    with_reducible refine (refusal_off_at hx h1 (Below.refl _ _) _ _ _).mono ?_
    rintro e w' ⟨rfl, rfl⟩
    go_wp2_with fail
    go_ret
    exact ⟨rfl, Post.same hx (Below.refl _ _)⟩
  · rw [if_neg h1] at h
    have ho : x.off = false := by simpa using h1
    by_cases h2 : n < 0
    · rw [if_pos h2] at h
      obtain ⟨rfl, rfl⟩ := Prod.mk.inj h
      go_enter Try.func16, Try.ntmps16
      go_wp2_with fail
      with_reducible refine (refusal_zero hx ho).mono ?_
      rintro e w' ⟨rfl, rfl⟩
      go_wp2_with fail
      go_ret
      exact ⟨rfl, Post.same hx (Below.refl _ _)⟩
    · rw [if_neg h2] at h
      obtain ⟨rfl, rfl⟩ := Prod.mk.inj h
      obtain ⟨vs, us, lo, ps, hr, hR, hok, hd⟩ := id hx
      have hc2 : w.cell? ⟨d, 2, none⟩ = some (.int .i64 x.left) := by rw [hr.cell (by omega)]; rfl
      have hf2 := hr.frozen 2
      have HR := Lib.hid hr; clear hr
      go_enter Try.func16, Try.ntmps16
      go_wp2_with fail
      with_reducible refine (refusal_zero hx ho).mono ?_
      rintro e w' ⟨rfl, rfl⟩
      go_wp2_with fail
      go_ret
      refine ⟨rfl, ⟨vs, us, lo, ps, (HR.out.set 2 (.int .i64 n)).congr fun j hj => ?_, Rest.mono (x := { x with left := n }) (w := w.setCell ⟨d, 2, none⟩ (.int .i64 n)) (F := F) ((hR.setCell HR.out _).congr rfl rfl) (fun k h => Or.inl h) (fun k h => ?_), hok2, .inl hd⟩, (Only.setCell w d 2 _).mono fun k hk => by rw [hk]; exact hd⟩
      · by_cases e : j = 2
        · subst e; rfl
        · rw [if_neg e]; unfold cellsD; simp [e]
      · rcases h with h | h
        · have := hx.lt h; simpa using this
        · exact h.2

/-! ### Read -/
/-- A slice's bytes as a text. -/
theorem has_string {w : World} {v : Value} {s : ByteArray} (h : Has w v s) : (convert 44 9 v).run Try.prog w = .ok (.string s) w := by
  rcases h with ⟨rfl, rfl⟩ | ⟨g, cap, cur, rfl, hg, h1, h2, h3, h4⟩
  · exact run_convert_bytes_nil w 44 5 Try.underlying44 Try.underlying5 0 0 9 Try.underlying9
  · have e : strOfNums (s.data.toList.map fun b => (b.toNat : Int)) = s := by
      unfold strOfNums
      cases s with
      | mk a =>
        congr 1
        apply Array.ext'
        simp only [List.map_map]
        conv => rhs; rw [← List.map_id a.toList]
        exact List.map_congr_left fun b _ => by simp
    have hr := run_convert_bytes_arg (P := Try.prog) w 44 5 Try.underlying44 Try.underlying5 g 0 s.size cap (s.data.toList.map fun b => (b.toNat : Int)) (by rw [List.length_map, Array.length_toList]; rfl) (fun i hi => ?_) 9 Try.underlying9
    · rw [e] at hr; exact hr
    · rw [Nat.zero_add]
      have hi' : i < s.size := hi
      have hc := cell_of_row w g i cur 5 (0, 0) hg
      have h5 : (Lib.strCells s)[i]? = cur[i]? := by
        rw [← h4, List.getElem?_take, if_pos hi']; simp
      rw [hc, ← h5]
      simp only [Lib.strCells, List.getElem?_map, List.getD_eq_getElem?_getD]
      rw [List.getElem?_eq_getElem (by rw [Array.length_toList]; exact hi')]
      simp
set_option maxHeartbeats 800000 in
theorem read_at {x : D} {i E : Int} {s : ByteArray} (h : x.read i = (s, E)) (w : World) (F : Nat → Prop) (d : Nat) (hx : IsDisk w F d x) :
    Calls Try.prog 19 #[ptr d 0, .int .i64 i] w fun e w' => e = .returned (.tuple #[.string s, .int .i64 E]) ∧ Below w.heap.size w w' := by
  have hb1 : ∀ o, Below w.heap.size w (w.alloc o) := fun o => (Below.refl w.heap.size w).alloc (Nat.le_refl _) o
  have hcn : (w.alloc (.cells #[.int .i64 i] 3)).cell? ⟨w.heap.size, 0, none⟩ = some (.int .i64 i) := by
    rw [cell_of_row _ _ _ _ _ _ (heap_alloc_new w _)]; rfl
  have HB := Lib.hid hb1
  unfold D.read at h
  by_cases h1 : x.off = true
  · rw [if_pos h1] at h
    obtain ⟨rfl, rfl⟩ := Prod.mk.inj h
    clear hb1 hcn
    go_enter Try.func19, Try.ntmps19
    go_wp2_with fail
    with_reducible refine (refusal_off_at hx h1 (HB.out _) _ _ _).mono ?_
    rintro e w' ⟨rfl, rfl⟩
    go_wp2_with fail
    go_ret2
    exact ⟨rfl, HB.out _⟩
  · rw [if_neg h1] at h
    have ho : x.off = false := by simpa using h1
    by_cases h2 : isFile i = false
    · rw [if_pos h2] at h
      obtain ⟨rfl, rfl⟩ := Prod.mk.inj h
      have HC := Lib.hid (refusal_not hx ho h2 (hb1 _) _ hcn)
      clear hb1 hcn
      go_enter Try.func19, Try.ntmps19
      go_wp2_with fail
      with_reducible refine HC.out.mono ?_
      rintro e w' ⟨rfl, rfl⟩
      go_wp2_with fail
      go_ret2
      exact ⟨rfl, HB.out _⟩
    · rw [if_neg h2] at h
      have hf : isFile i = true := by simpa using h2
      have hi := isFile_iff.1 hf
      obtain ⟨j, rfl⟩ : ∃ j : Nat, i = j := ⟨i.toNat, by omega⟩
      rw [Int.toNat_natCast] at h
      obtain ⟨rfl, rfl⟩ := Prod.mk.inj h
      have HC := Lib.hid (refusal_file hx ho hf (hb1 _) _ hcn)
      obtain ⟨a, cap, hc, hh⟩ := (hx.below (hb1 (.cells #[.int .i64 j] 3))).file (i := j) (by omega)
      have hs := has_string hh
      have hi0 : (0 : Int) ≤ (j : Int) := by omega
      have hi1 : (j : Int) < 16 := by omega
      obtain ⟨s, es⟩ : ∃ s, x.now j = s := ⟨_, rfl⟩
      rw [es] at hs hc ⊢
      clear hb1 hcn hh es hf
      go_enter Try.func19, Try.ntmps19
      go_wp2_with fail
      with_reducible refine HC.out.mono ?_
      rintro e w' ⟨rfl, rfl⟩
      go_wp2_with fail
      go_ret2
      exact ⟨rfl, HB.out _⟩
end Go.Proofs.Ytbnnbaoimidfnaa.dsk
