/- The reference's New and Left. -/
import Derived.Test.YtdajpaigahhhcaaRa
namespace Go.Proofs.Ytdajpaigahhhcaa.dsk
set_option linter.unusedSimpArgs false
set_option linter.unusedVariables false
open Go.RowKit

def fresh36 (n : Nat) : Array Value := #[.int .i64 n, .string ⟨#[]⟩, .string ⟨#[]⟩, .string ⟨#[]⟩, .string ⟨#[]⟩, .string ⟨#[]⟩, .string ⟨#[]⟩, .string ⟨#[]⟩, .string ⟨#[]⟩, .string ⟨#[]⟩, .string ⟨#[]⟩, .string ⟨#[]⟩, .string ⟨#[]⟩, .string ⟨#[]⟩, .string ⟨#[]⟩, .string ⟨#[]⟩, .string ⟨#[]⟩, .string ⟨#[]⟩, .string ⟨#[]⟩, .string ⟨#[]⟩, .string ⟨#[]⟩, .string ⟨#[]⟩, .string ⟨#[]⟩, .string ⟨#[]⟩, .string ⟨#[]⟩, .string ⟨#[]⟩, .string ⟨#[]⟩, .string ⟨#[]⟩, .string ⟨#[]⟩, .string ⟨#[]⟩, .string ⟨#[]⟩, .string ⟨#[]⟩, .string ⟨#[]⟩, .slice none 0 0, .bool false, .int .i64 (-1)]
theorem fresh_ref (w : World) (n : Nat) (h1 : 1 ≤ n) (h2 : n ≤ 4194304) : IsRef (w.alloc (.cells (fresh36 n) 46)) (· = w.heap.size) w.heap.size (D.fresh n) := by
  have hr : (w.alloc (.cells (fresh36 n) 46)).rowIs w.heap.size 46 36 (cellsR n false (-1) (fun _ => empty) (fun _ => empty) (.slice none 0 0)) := by
    have e : fresh36 n = ((List.range 36).map (cellsR n false (-1) (fun _ => empty) (fun _ => empty) (.slice none 0 0))).toArray := rfl
    refine World.rowIs_alloc w _ 46 _ fun i hi => ?_
    have hi' : i < 36 := hi
    rw [e, List.getElem?_toArray, List.getElem?_map, List.getElem?_range hi']
    rfl
  exact ⟨_, ⟨hr, World.ownsRow_nil _ _ _ _, rfl, fun k h => by simp [Value.ownBlock] at h, fun k hk => by rw [hk]; simp⟩, D.fresh_ok h1 h2⟩
set_option maxRecDepth 100000 in
theorem rnew_good (n : Nat) (h1 : 1 ≤ n) (h2 : n ≤ 4194304) (w : World) :
    Calls Try.prog 22 #[.int .i64 n] w fun e w' => e = .returned (.tuple #[ptr w.heap.size 0, .int .i64 0]) ∧ IsRef w' (· = w.heap.size) w.heap.size (D.fresh n) ∧ Below w.heap.size w w' := by
  have HF := Lib.hid (fresh_ref w n h1 h2)
  have h1' : (1 : Int) ≤ (n : Int) := by omega
  have h2' : (n : Int) ≤ 4194304 := by omega
  go_enter Try.func22, Try.ntmps22
  go_wp2
  go_ret2
  exact ⟨rfl, HF.out, (Below.refl _ w).alloc (Nat.le_refl _) _⟩

/-! ### Left -/
def tot (f : Files) (k : Nat) : Nat := ((List.range k).map fun i => (f i).size).sum
theorem tot_succ (f : Files) (k : Nat) : tot f (k + 1) = tot f k + (f k).size := by
  unfold tot; rw [List.range_succ, List.map_append, List.sum_append]; simp
theorem tot_le (f : Files) {k : Nat} (hk : k ≤ 16) : tot f k ≤ total f := by
  have h : ∀ m j, tot f j ≤ tot f (j + m) := fun m => by
    induction m with
    | zero => exact fun j => Nat.le_refl _
    | succ m ih => exact fun j => by have := ih j; rw [← Nat.add_assoc, tot_succ]; omega
  have := h (16 - k) k
  rw [show k + (16 - k) = 16 by omega] at this
  exact this
set_option maxHeartbeats 800000 in
theorem rleft_at {x : D} {v : Int} (h : x.room' = v) (w : World) (G : Nat → Prop) (r : Nat) (hx : IsRef w G r x) : Calls Try.prog 24 #[ptr r 0] w fun e w' => e = .returned (.int .i64 v) ∧ w = w' := by
  obtain ⟨lo, hr, hok⟩ := hx
  have h0 := hr.cell0
  have hroom := hok.room2
  have hnow := hok.now
  have hv : (x.room : Int) - (tot x.now 16 : Int) = v := h
  have HV := Lib.hid hv
  have HN : Hid (∀ i, i < 16 → w.cell? ⟨r, 1 + i, none⟩ = some (.string (x.now i))) := Lib.hid fun i hi => hr.cellNow hi
  have HT : Hid (∀ k, k ≤ 16 → tot x.now k ≤ x.room) := Lib.hid fun k hk => Nat.le_trans (tot_le _ hk) hnow
  clear hr hok h hv hnow
  go_enter Try.func24, Try.ntmps24
  go_wp2
  go_loop [3, 4] (fun u i => ∃ k : Nat, k ≤ 16 ∧ i = .int .i64 k ∧ u = .int .i64 ((x.room : Int) - (tot x.now k : Int))) (fun _ i => 16 - (intOf i).toNat)
  case atStart => exact ⟨0, by omega, rfl, by simp [tot]⟩
  case round =>
    obtain ⟨k, hk, rfl, rfl⟩ := hrel
    by_cases hlt : k < 16
    · have hc := HN.out k hlt
      obtain ⟨s, es⟩ : ∃ s, x.now k = s := ⟨_, rfl⟩
      have hs := tot_succ x.now k
      have hle := HT.out (k + 1) (by omega)
      rw [es] at hc hs
      obtain ⟨T, hT⟩ : ∃ T, tot x.now k = T := ⟨_, rfl⟩
      obtain ⟨T', hT'⟩ : ∃ T', tot x.now (k + 1) = T' := ⟨_, rfl⟩
      have HT' := Lib.hid hT'
      rw [hT, hT'] at hs
      rw [hT'] at hle
      rw [hT]
      have hk0 : (0 : Int) ≤ (k : Int) := by omega
      have hk1 : (k : Int) < 16 := by omega
      have h1 : -9223372036854775808 ≤ (x.room : Int) - (T : Int) - (s.size : Int) := by omega
      have h2 : (x.room : Int) - (T : Int) - (s.size : Int) ≤ 9223372036854775807 := by omega
      have hz : (x.room : Int) - (T : Int) - (s.size : Int) = (x.room : Int) - (T' : Int) := by omega
      have HZ := Lib.hid hz
      clear hT hT' es hs hz hle
      go_wp2
      go_round
      case rel => exact ⟨k + 1, by omega, by go_num, by rw [HT'.out, ← HZ.out]⟩
      case measure => simp [intOf]; omega
    · obtain rfl : k = 16 := by omega
      rw [HV.out]
      go_wp2
      go_ret
      exact ⟨rfl, rfl⟩
end Go.Proofs.Ytdajpaigahhhcaa.dsk
