/- What changelingref08.Deep answers. -/
import Derived.Test.YtffhmbiamkbchaaDoorExR
namespace Go.Proofs.YtffhmbiamkbchaaDoor.exp
set_option linter.unusedSimpArgs false
set_option linter.unusedVariables false
open Go.RowKit nam

set_option maxHeartbeats 1600000 in
set_option maxRecDepth 1000000 in
theorem rdeep1_any : ∀ (s : Nat), s ≤ 1000000 → ∀ (x : Ex), x.size ≤ s → ∀ (v : Value) (B : Nat → Prop) (w : World) (left : Nat), 1 ≤ left → left ≤ 17 → Lies w B v x.args →
    Calls Tryd.prog 49 #[exV x v, .int .i64 (left : Int)] w fun e w' => e = .returned (.int .i64 ((min left x.dep : Nat) : Int)) ∧ Below w.heap.size w w' := by
  intro s
  induction s with
  | zero => intro _ x hx; have := size_pos x; omega
  | succ s ih =>
    intro hs x hx v B w left h1 h17 hlx
    obtain ⟨W, hW⟩ : ∃ W, w.alloc (.cells #[.int .u8 (x.op : Int), .int .i64 x.n, v] 27) = W := ⟨_, rfl⟩
    obtain ⟨N, hN⟩ : ∃ N, w.heap.size = N := ⟨_, rfl⟩
    obtain ⟨a, c, rfl, hfx⟩ := hlx.form
    have hwb : Below w.heap.size w W := by rw [← hW]; exact (Below.refl _ _).alloc (Nat.le_refl _) _
    have hWs : W.heap.size = N + 1 := by rw [← hW, ← hN]; simp
    obtain ⟨c0, c1, c2⟩ := box_cells hW
    rw [hN] at c0 c1 c2
    have HW := Lib.hid hwb; have HN := Lib.hid (And.intro hN hWs); have HX := Lib.hid hfx
    have hxl : x.args.length < x.size := by rw [size_eq x]; have := sizes_len x.args; omega
    have HD := Lib.hid (dep_eq x)
    clear hwb hWs hlx hfx
    unfold exV
    by_cases hl : left = 1
    · have hl' : (left : Int) ≤ 1 := by omega
      have HL := Lib.hid hl; clear hl
      go_enter Tryd.func49, Tryd.ntmps49
      go_wp2_with fail
      go_ret
      exact ⟨ret_int (by have := HL.out; have := HD.out; omega), HW.out⟩
    · have hl' : ¬ (left : Int) ≤ 1 := by omega
      go_enter Tryd.func49, Tryd.ntmps49
      go_wp2_with fail
      go_loopg [5, 6] x.args.length (fun g v5 v6 wr => ∃ k : Nat, k + g = x.args.length ∧ v6 = .int .i64 (k : Int) ∧ v5 = .int .i64 ((min (left - 1) (deps (x.args.take k)) : Nat) : Int) ∧ Below W.heap.size W wr)
      case atStart => exact ⟨0, by omega, rfl, by simp [deps_nil], Below.refl _ _⟩
      case round =>
        rename World => wr
        obtain ⟨k, hk, rfl, rfl, hb⟩ := hrel
        have HB := Lib.hid hb; clear hb
        have xr : wr.cell? ⟨N, 2, none⟩ = some (.slice a x.args.length c) := (HB.out.cell (p := ⟨N, 2, none⟩) (by show N < _; have := HN.out.2; omega)).trans c2
        have HBR := Lib.hid (HW.out.trans (HB.out.mono HW.out.size))
        obtain ⟨M, hM⟩ : ∃ M, min (left - 1) (deps (x.args.take k)) = M := ⟨_, rfl⟩
        have hM16 : M ≤ 16 := by omega
        rw [hM]
        have HM := Lib.hid hM; clear hM
        by_cases hk' : k < x.args.length
        · obtain ⟨b1, rfl, hex⟩ := HX.out (by omega)
          have hax := (hex k hk').below HBR.out
          obtain ⟨a1, d1, p0, p1, p2, hlp, _⟩ := hax.cells
          have hsz := size_arg (List.getElem_mem hk')
          have hkn : (k : Int) < (x.args.length : Int) := by omega
          obtain ⟨X, hX⟩ : ∃ X, x.args[k] = X := ⟨_, rfl⟩
          rw [hX] at p0 p1 p2 hsz hlp
          have hl1 : (left : Int) - 1 = ((left - 1 : Nat) : Int) := by omega
          have HC := Lib.hid (ih (by omega) X (by omega) _ B wr (left - 1) (by omega) (by omega) hlp)
          unfold exV at HC
          obtain ⟨m, hm⟩ : ∃ m, min (left - 1) X.dep = m := ⟨_, rfl⟩
          have hm16 : m ≤ 16 := by omega
          rw [hm] at HC
          have HE : Hid (max M m = min (left - 1) (deps (x.args.take (k + 1)))) := Lib.hid (by rw [deps_take hk', hX]; have := HM.out; omega)
          clear hm hX hex hax hlp
          go_wp2_with fail
          refine HC.out.mono ?_
          rintro e w3 ⟨rfl, hb3⟩
          have HB3 := Lib.hid (HB.out.trans (hb3.mono HB.out.size)); clear hb3
          by_cases hmM : M < m
          · have hmM' : (m : Int) > (M : Int) := by omega
            go_wp2_with fail
            go_roundg (gk - 1)
            case measure => omega
            case rel => exact ⟨k + 1, by omega, by go_num, by rw [← HE.out, Nat.max_eq_right (by omega)], HB3.out⟩
          · have hmM' : ¬ (m : Int) > (M : Int) := by omega
            go_wp2_with fail
            go_roundg (gk - 1)
            case measure => omega
            case rel => exact ⟨k + 1, by omega, by go_num, by rw [← HE.out, Nat.max_eq_left (by omega)], HB3.out⟩
        · have hkn : (x.args.length : Int) ≤ (k : Int) := by omega
          have HE : Hid (M + 1 = min left x.dep) := Lib.hid (by have h2 := HM.out; rw [List.take_of_length_le (by omega)] at h2; have := HD.out; omega)
          go_wp2_with fail
          try rw [Exit.noGoto_ret]
          go_ret
          exact ⟨ret_int (by rw [← HE.out]; omega), HBR.out⟩
theorem rdeep_any {x : Ex} {v : Value} {B : Nat → Prop} {w : World} (h : Lies w B v x.args) (hs : x.size ≤ 1000000) :
    Calls Tryd.prog 30 #[exV x v] w fun e w' => e = .returned (.int .i64 ((min 17 x.dep : Nat) : Int)) ∧ Below w.heap.size w w' := by
  obtain ⟨W, hW⟩ : ∃ W, w.alloc (.cells #[.int .u8 (x.op : Int), .int .i64 x.n, v] 27) = W := ⟨_, rfl⟩
  have hwb : Below w.heap.size w W := by rw [← hW]; exact (Below.refl _ _).alloc (Nat.le_refl _) _
  have HO : Hid (Calls Tryd.prog 49 #[.agg #[.int .u8 (x.op : Int), .int .i64 x.n, v], .int .i64 17] W fun e w' => e = .returned (.int .i64 ((min 17 x.dep : Nat) : Int)) ∧ Below W.heap.size W w') := Lib.hid (rdeep1_any x.size hs x (Nat.le_refl _) v B W 17 (by omega) (by omega) (h.under hwb))
  have HB := Lib.hid hwb
  obtain ⟨c0, c1, c2⟩ := box_cells hW
  clear h hwb
  unfold exV
  go_enter Tryd.func30, Tryd.ntmps30
  go_wp2_with fail
  refine HO.out.mono ?_
  rintro e w' ⟨rfl, hb⟩
  have HX := Lib.hid (HB.out.trans (hb.mono HB.out.size))
  clear hb
  go_wp2_with fail
  go_ret
  exact ⟨rfl, HX.out⟩
end Go.Proofs.YtffhmbiamkbchaaDoor.exp
