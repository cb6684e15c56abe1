/- The variable of kinds; which kind a word is of; what number a word tells; words ahead of a number. -/
import Derived.Test.YtimjpgmgpgpanaaGreatDoorScP
import Derived.Test.YtimjpgmgpgpanaaGreatDoorMJb
import Derived.Test.YtimjpgmgpgpanaaGreatDoorMLx
import Derived.Test.YtimjpgmgpgpanaaGreatDoorMNm
namespace Go.Proofs.YtimjpgmgpgpanaaGreatDoor.sc
set_option linter.unusedSimpArgs false
set_option linter.unusedVariables false
open Go.RowKit nam exp jb

theorem tl_iff {a b : ByteArray} : a.toList = b.toList ↔ a = b := by
  constructor
  · intro h
    rw [ByteArray.toList_eq, ByteArray.toList_eq] at h
    exact ByteArray.ext (by have := congrArg List.toArray h; simpa using this)
  · intro h; rw [h]
theorem se {a b : ByteArray} (h : a = b) : (a.toList == b.toList) = true := by subst h; simp
theorem sn {a b : ByteArray} (h : a ≠ b) : (a.toList == b.toList) = false := by
  cases hx : (a.toList == b.toList) with
  | false => rfl
  | true => exact absurd (tl_iff.1 (eq_of_beq hx)) h
def kindCell (k : Nat) : List Value := [.string (wordK k), .bool (hasN k), .bool (hasX k)]
def kindCells : List Value := (List.range 10).flatMap kindCell
/-- The variable of kinds stands. -/
def KTab (w : World) : Prop := ∃ t fr, w.heap[0]? = some (.cells kindCells.toArray t fr)
theorem KTab.on {w w' : World} (h : KTab w) (hb : Below w.heap.size w w') : KTab w' := by
  obtain ⟨t, fr, h⟩ := h
  exact ⟨t, fr, (hb.block _ (Array.getElem?_eq_some_iff.1 h).1).trans h⟩
theorem KTab.row {w : World} (h : KTab w) {k : Nat} (hk : k < 10) : w.cell? ⟨0, k * 3, none⟩ = some (.string (wordK k)) ∧ w.cell? ⟨0, k * 3 + 1, none⟩ = some (.bool (hasN k)) ∧ w.cell? ⟨0, k * 3 + 2, none⟩ = some (.bool (hasX k)) := by
  obtain ⟨t, fr, h⟩ := h
  match k, hk with
  | 0, _ | 1, _ | 2, _ | 3, _ | 4, _ | 5, _ | 6, _ | 7, _ | 8, _ | 9, _ => exact ⟨cell_of h rfl, cell_of h rfl, cell_of h rfl⟩
  | k + 10, hk => exact absurd hk (by omega)
theorem kindGo_le (s : ByteArray) : ∀ n k, kindGo s n k = 0 ∨ (k ≤ kindGo s n k ∧ kindGo s n k < k + n)
  | 0, k => .inl rfl
  | n + 1, k => by
    rw [kindGo]
    by_cases h : wordK k = s
    · rw [if_pos h]; exact .inr (by omega)
    · rw [if_neg h]
      rcases kindGo_le s n (k + 1) with h | h
      · exact .inl h
      · exact .inr (by omega)
theorem kindOf_lt (s : ByteArray) : kindOfO s < 10 := by
  rcases kindGo_le s 9 1 with h | h
  · unfold kindOfO; omega
  · unfold kindOfO; omega
set_option maxHeartbeats 800000 in
set_option maxRecDepth 1000000 in
theorem kindOf_any {w : World} (ht : KTab w) (s : ByteArray) :
    Calls Tryz.prog 101 #[.string s] w fun e w' => e = .returned (.tuple #[.int .u8 (kindOfO s : Int), .bool (kindOfO s != 0)]) ∧ w' = w := by
  have HT := Lib.hid ht
  clear ht
  go_enter Tryz.func101, Tryz.ntmps101
  go_wp2_with fail
  go_loopg [4] 9 (fun g v4 wr => ∃ k : Nat, k + g = 10 ∧ 1 ≤ k ∧ v4 = .int .u8 (k : Int) ∧ kindGo s (10 - k) k = kindOfO s ∧ wr = w)
  case atStart => exact ⟨1, by omega, by omega, rfl, rfl, rfl⟩
  case round =>
    obtain ⟨k, hk, hk1, rfl, hf, rfl⟩ := hrel
    have HF := Lib.hid hf; clear hf
    by_cases hk9 : k ≤ 9
    · have hki : (k : Int) ≤ 9 := by omega
      have hk0 : (1 : Int) ≤ k := by omega
      obtain ⟨c0, c1, c2⟩ := HT.out.row (k := k) (by omega)
      have HG : Hid (kindGo s (10 - k) k = if wordK k = s then k else kindGo s (9 - k) (k + 1)) := Lib.hid (by
        rw [show 10 - k = (9 - k) + 1 by omega, kindGo])
      obtain ⟨W, hW⟩ : ∃ W, wordK k = W := ⟨_, rfl⟩
      rw [hW] at c0 HG
      clear hW
      by_cases he : W = s
      · have he1 := se he
        have HE : Hid (kindOfO s = k) := Lib.hid (by rw [← HF.out, HG.out, if_pos he])
        have HE2 : Hid (Ending.returned (.tuple #[.int .u8 (k : Int), .bool true]) = .returned (.tuple #[.int .u8 (kindOfO s : Int), .bool (kindOfO s != 0)])) := Lib.hid (by
          rw [HE.out]; simp; omega)
        clear he
        go_wp2_with fail
        try rw [Exit.noGoto_ret]
        go_ret2
        exact ⟨HE2.out, rfl⟩
      · have he1 := sn he
        have HE : Hid (kindGo s (10 - (k + 1)) (k + 1) = kindOfO s) := Lib.hid (by rw [← HF.out, HG.out, if_neg he]; congr 1; omega)
        clear he
        go_wp2_with fail
        go_roundg (gk - 1)
        case rel => exact ⟨k + 1, by omega, by omega, by go_num, HE.out, rfl⟩
        case measure => omega
    · have hki : ¬ (k : Int) ≤ 9 := by omega
      have HE : Hid (Ending.returned (.tuple #[.int .u8 0, .bool false]) = .returned (.tuple #[.int .u8 (kindOfO s : Int), .bool (kindOfO s != 0)])) := Lib.hid (by
        rw [← HF.out, show 10 - k = 0 by omega]; rfl)
      go_wp2_with fail
      try rw [Exit.noGoto_ret]
      go_ret2
      exact ⟨HE.out, rfl⟩
/-- What number answers. -/
def numV (o : Option Nat) : Value := .tuple #[.int .i64 ((o.getD 0 : Nat) : Int), .bool o.isSome]
theorem numGo_step {s : ByteArray} {most n pos : Nat} (hp : pos < s.size) : numGo most n (runesAt s pos) = if pos = most ∨ (Utf8.decode s pos).1 < 48 ∨ 57 < (Utf8.decode s pos).1 then none else numGo most (10 * n + ((Utf8.decode s pos).1 - 48)) (runesAt s (pos + (Utf8.decode s pos).2)) := by
  rw [runesAt_step s pos hp, numGo]
set_option maxHeartbeats 800000 in
set_option maxRecDepth 1000000 in
theorem number_any (s : ByteArray) (most : Nat) (hm : most ≤ 2) (w : World) :
    Calls Tryz.prog 74 #[.string s, .int .i64 (most : Int)] w fun e w' => e = .returned (numV (numO s most)) ∧ Below w.heap.size w w' := by
  go_enter Tryz.func74, Tryz.ntmps74
  go_wp2_with fail
  go_loopw [6] (fun u6 wr => ∃ (pos n : Nat), u6 = .int .i64 (n : Int) ∧ wr.heap[w.heap.size]? = some (.stringIter s pos) ∧ Below w.heap.size w wr ∧ numGo most n (runesAt s pos) = numO s most ∧ n ≤ 99 ∧ (pos ≤ 1 → n ≤ 9) ∧ (pos = 0 → n = 0) ∧ pos ≤ most) (fun _ wr => s.size - wr.iterPos w.heap.size)
  case atStart => exact ⟨0, 0, rfl, World.iter_heap w s 0, below_iter w s 0, rfl, by omega, fun _ => by omega, fun _ => rfl, Nat.zero_le _⟩
  case round =>
    obtain ⟨pos, n, rfl, hit, hb, hg, hn99, hn9, hn0, hpm⟩ := hrel
    have HG := Lib.hid hg; have HN := Lib.hid (And.intro hn9 hn0); clear hg hn9 hn0
    by_cases hp : pos < s.size
    · have hnx : ∀ ty, (Instr.next (.pointer (some ⟨w.heap.size, 0, none⟩)) true ty).run Tryz.prog wr = _ := fun ty => Lib.run_next_any_at wr w.heap.size s pos ty hit hp
      have hwd := width_pos s pos hp
      have HW := Lib.hid hit
      have HB2 := Lib.hid (Lib.below_iterAt hb (k := w.heap.size) (Nat.le_refl _) s (pos + (Utf8.decode s pos).2))
      have hit2 := Lib.hid (Lib.iterAt_heap wr w.heap.size s pos (pos + (Utf8.decode s pos).2) hit)
      have HS := Lib.hid (numGo_step (most := most) (n := n) hp)
      have HASC : Hid ((Utf8.decode s pos).1 < 128 → (Utf8.decode s pos).2 = 1) := Lib.hid (fun h => by
        by_cases ha : (s.get! pos).toNat < 128
        · unfold Utf8.decode
          simp only [Nat.add_zero]
          rw [if_pos ha]
        · have hbig := decodeN_big (s.size - pos) (s.get! pos).toNat (s.get! (pos + 1)).toNat (s.get! (pos + 2)).toNat (s.get! (pos + 3)).toNat (by omega)
          rw [← Lib.decode_at s pos] at hbig
          omega)
      obtain ⟨r, hr⟩ : ∃ r, (Utf8.decode s pos).1 = r := ⟨_, rfl⟩
      obtain ⟨wd, hwd2⟩ : ∃ wd, (Utf8.decode s pos).2 = wd := ⟨_, rfl⟩
      have HRL : Hid (r ≤ 1114111) := Lib.hid (by
        have h1 := decode_step_ok s s.size pos (pos, (Utf8.decode s pos).1) (by have h2 := runesAt_step s pos hp; unfold runesAt at h2; rw [h2]; simp)
        simp only [hr] at h1
        unfold okR at h1
        omega)
      rw [hr] at hnx HS HASC
      rw [hwd2] at hnx HB2 hit2 HS HASC
      rw [hwd2] at hwd
      clear hit hb
      by_cases hend : pos = most ∨ r < 48 ∨ 57 < r
      · have HE : Hid (Ending.returned (.tuple #[.int .i64 0, .bool false]) = .returned (numV (numO s most))) := Lib.hid (by
          rw [← HG.out, HS.out, if_pos hend]; rfl)
        by_cases h1 : pos = most
        · have h1' : ((pos : Int) == (most : Int)) = true := by simp [h1]
          clear hend h1 hwd2 hr
          go_wp2_with fail
          try rw [Exit.noGoto_ret]
          go_ret2
          exact ⟨HE.out, HB2.out⟩
        · have h1' : ((pos : Int) == (most : Int)) = false := by simp; omega
          by_cases h2 : r < 48
          · have h2' : (r : Int) < 48 := by omega
            clear hend h1 hwd2 hr h2
            go_wp2_with fail
            try rw [Exit.noGoto_ret]
            go_ret2
            exact ⟨HE.out, HB2.out⟩
          · have h2' : ¬ (r : Int) < 48 := by omega
            have h3 : (57 : Int) < (r : Int) := by omega
            clear hend h1 hwd2 hr h2
            go_wp2_with fail
            try rw [Exit.noGoto_ret]
            go_ret2
            exact ⟨HE.out, HB2.out⟩
      · have h1 : ¬ pos = most := fun h => hend (.inl h)
        have h1' : ((pos : Int) == (most : Int)) = false := by simp; omega
        have h2 : ¬ r < 48 := fun h => hend (.inr (.inl h))
        have h3 : ¬ 57 < r := fun h => hend (.inr (.inr h))
        have h2' : ¬ (r : Int) < 48 := by omega
        have h3' : ¬ (57 : Int) < (r : Int) := by omega
        have hw1 : wd = 1 := HASC.out (by omega)
        have hn9 : n ≤ 9 := HN.out.1 (by omega)
        have HE : Hid (numGo most (10 * n + (r - 48)) (runesAt s (pos + wd)) = numO s most) := Lib.hid (by rw [← HG.out, HS.out, if_neg hend])
        have HREL : Hid (10 * n + (r - 48) ≤ 99 ∧ (pos + wd ≤ 1 → 10 * n + (r - 48) ≤ 9) ∧ (pos + wd = 0 → 10 * n + (r - 48) = 0) ∧ pos + wd ≤ most) := Lib.hid (by
          have := HN.out.2
          refine ⟨by omega, fun h => ?_, fun h => by omega, by omega⟩
          have := this (by omega)
          omega)
        have HV : Hid ((10 : Int) * n + ((r : Int) - 48) = ((10 * n + (r - 48) : Nat) : Int)) := Lib.hid (by omega)
        have hb1 : (0 : Int) ≤ (r : Int) - 48 := by omega
        have hb2 : (r : Int) - 48 ≤ 9 := by omega
        have hb3 : (n : Int) ≤ 9 := by omega
        clear hend hwd2 hr h1 h2 h3
        subst hw1
        go_wp2_with fail
        go_roundw
        case rel => exact ⟨pos + 1, 10 * n + (r - 48), by rw [← HV.out], hit2.out, HB2.out, HE.out, HREL.out.1, HREL.out.2.1, HREL.out.2.2.1, HREL.out.2.2.2⟩
        case measure => simp only [World.iterPos, hit2.out, HW.out] <;> omega
    · have hnx : ∀ ty, (Instr.next (.pointer (some ⟨w.heap.size, 0, none⟩)) true ty).run Tryz.prog wr = _ := fun ty => Lib.run_next_end_at wr w.heap.size s pos ty hit hp
      have HE : Hid (Ending.returned (.tuple #[.int .i64 (n : Int), .bool true]) = .returned (numV (numO s most))) := Lib.hid (by
        rw [← HG.out, runesAt_end s pos hp]; rfl)
      have HB := Lib.hid hb
      go_wp2_with fail
      try rw [Exit.noGoto_ret]
      go_ret2
      exact ⟨HE.out, HB.out⟩
end Go.Proofs.YtimjpgmgpgpanaaGreatDoor.sc
