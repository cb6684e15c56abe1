/- strconv.FormatInt where the library's table stands; LexNumbers returns true of every number and count of zeros. -/
import Derived.Test.YtejcgkchlehoiaaDoorLxH
import Derived.Test.YtejcgkchlehoiaaDoorLxY
import Derived.Lib.AppendIntMem
namespace Go.Proofs.YtejcgkchlehoiaaDoor.lex
set_option linter.unusedSimpArgs false
set_option linter.unusedVariables false
open Go.RowKit nam

/-- The library's table of powers stands, in w and whatever comes behind it. -/
def Tab (w : World) : Prop := Lib.TabIs Tryd.prog w "internal/strconv.uint64pow10" .u64 Lib.pow10Tab
theorem Tab.on {w w' : World} (h : Tab w) (hb : Below w.heap.size w w') : Tab w' := Lib.tabBelow_of_tabIs h w' hb
theorem fmt_any {w : World} (h : Tab w) (u : Nat) (hu : u ≤ 9223372036854775807) : Calls Tryd.prog 8 #[.int .i64 u, .int .i64 10] w fun e w' => e = .returned (.string (textOf (digR u))) ∧ Below w.heap.size w w' := by
  refine (Tryd.strconv_FormatInt_10 (u : Int) (by omega) (by omega) w h).mono ?_
  rintro e w' ⟨rfl, k, os, rfl⟩
  exact ⟨by rw [itoa_text], Lib.below_grow _ _ (Nat.le_refl _) _ _⟩
/-- Two tokens alone. -/
theorem two_tokens {w : World} {B : Nat} {v : Value} {t t' : Tok} (h : Toks w B v [t, t']) : ∃ g cap, v = .slice (some ⟨g, 0, none⟩) 2 cap ∧ g < w.heap.size ∧ w.cell? ⟨g, 0, none⟩ = some (.int .u8 t.kind) ∧ w.cell? ⟨g, 2, none⟩ = some (.int .i64 t.n) ∧ w.cell? ⟨g, 5, none⟩ = some (.string (textOf t'.text)) := by
  obtain ⟨a, c, rfl, ha⟩ := toks_form h
  obtain ⟨g, rfl⟩ := ha (by simp)
  have r0 := toks_range (j := 0) h rfl rfl
  have r1 := toks_range (j := 1) h rfl rfl
  exact ⟨g, c, rfl, (toks_lt h).2, r0 0 _ rfl, r0 2 _ rfl, r1 1 _ rfl⟩

set_option maxHeartbeats 1600000 in
set_option maxRecDepth 1000000 in
theorem law_numbers (n z : Int) (hn : -9223372036854775808 ≤ n ∧ n ≤ 9223372036854775807) (hz : 0 ≤ z ∧ z ≤ 255) (w : World) (htab : Tab w) :
    Calls Tryd.prog 4 #[.int .i64 n, .int .u8 z] w fun e w' => e = .returned (.bool true) ∧ Below w.heap.size w w' := by
  have HTAB := Lib.hid htab
  clear htab
  by_cases h0 : n < 0
  · go_enter Tryd.func4, Tryd.ntmps4
    go_wp2_with fail
    refine (works_any _).mono ?_
    rintro e w1 ⟨rfl, hb⟩
    have HB := Lib.hid hb; clear hb
    go_wp2_with fail
    go_ret
    exact ⟨rfl, HB.out⟩
  · obtain ⟨u, rfl⟩ : ∃ u : Nat, n = u := ⟨n.toNat, by omega⟩
    have hu : u ≤ 9223372036854775807 := by omega
    have HU := Lib.hid hu
    obtain ⟨m, hm⟩ : ∃ m : Nat, z % 5 = m := ⟨(z % 5).toNat, by omega⟩
    have hm4 : m ≤ 4 := by omega
    obtain ⟨hz0, hz1⟩ := hz
    clear hu hn
    have h0' : ¬ (u : Int) < 0 := by omega
    clear h0
    go_enter Tryd.func4, Tryd.ntmps4
    go_wp2_with fail
    go_outline
    go_loop [5, 14] (fun s i => ∃ k : Nat, k ≤ m ∧ i = .int .u8 k ∧ s = .string (textOf (List.replicate k 48))) (fun _ i => m - (intOf i).toNat)
    case atStart => exact ⟨0, by omega, rfl, rfl⟩
    case round =>
      obtain ⟨k, hk, rfl, rfl⟩ := hrel
      by_cases hlt : k < m
      · have hs := textOf_bound (List.replicate k 48) 5 (by simp; omega)
        have e1 : textOf (List.replicate k 48) ++ (⟨#[48]⟩ : ByteArray) = textOf (List.replicate (k + 1) 48) := by
          rw [show (⟨#[48]⟩ : ByteArray) = textOf [48] from rfl, textOf_app, List.replicate_succ']
        have HE := Lib.hid e1
        clear e1
        go_wp2_with fail
        go_round
        case rel => exact ⟨k + 1, by omega, by go_num, by rw [← HE.out]⟩
        case measure => simp [intOf]; omega
      · obtain rfl : k = m := by omega
        have hs := textOf_bound (List.replicate k 48) 5 (by simp; omega)
        have hd := textOf_bound (digR u) 20 (digR_len HU.out)
        have hnum := numbers_of (z := k) (u := u) (by omega) HU.out
        have e1 : textOf (List.replicate k 48) ++ textOf (digR u) ++ (⟨#[120]⟩ : ByteArray) = textOf (List.replicate k 48 ++ digR u ++ [120]) := by
          rw [show (⟨#[120]⟩ : ByteArray) = textOf [120] from rfl, textOf_app, textOf_app]
        rw [← e1] at hnum
        have HT := Lib.hid (fun w => tokens_of hnum w)
        clear hnum e1
        go_wp2_with fail
        refine (fmt_any HTAB.out u HU.out).mono ?_
        rintro e w1 ⟨rfl, hb⟩
        have HB := Lib.hid hb; clear hb
        go_wp2_with fail
        refine (HT.out _).mono ?_
        rintro e w2 ⟨v, rfl, ht, hb⟩
        obtain ⟨g, cap, rfl, hg, c0, c2, c5⟩ := two_tokens ht
        have HB := Lib.hid (below_on' HB.out hb); clear hb ht
        have b120 : ((textOf [120]).toList == [120]) = true := str_eq rfl
        go_wp2_with fail
        refine (works_any _).mono ?_
        rintro e w3 ⟨rfl, hb⟩
        have HB := Lib.hid (below_on' HB.out hb); clear hb
        go_wp2_with fail
        go_ret
        exact ⟨rfl, HB.out⟩
end Go.Proofs.YtejcgkchlehoiaaDoor.lex
