/- The text of tokens with blanks between them: what the law's own 'text' answers. -/
import Derived.Test.YtejcgkchlehoiaaDoorLxZ
namespace Go.Proofs.YtejcgkchlehoiaaDoor.lex
set_option linter.unusedSimpArgs false
set_option linter.unusedVariables false
open Go.RowKit nam

theorem take_get {α : Type} {l : List α} {k : Nat} {x : α} (h : l[k]? = some x) : l.take (k + 1) = l.take k ++ [x] := by
  rw [List.take_add_one, h]; rfl
theorem told_next (tab : Bool) {l : List Tok} {k : Nat} {t : Tok} (h : l[k]? = some t) : textOf (toldR tab (l.take k)) ++ (textOf (tokR t) ++ textOf (blkR tab)) = textOf (toldR tab (l.take (k + 1))) := by
  rw [take_get h, toldR_snoc, textOf_app, textOf_app]

set_option maxHeartbeats 1600000 in
set_option maxRecDepth 1000000 in
theorem text_any {w : World} {B : Nat} {v : Value} {l : List Tok} (tab : Bool) (h : Toks w B v l) (hg : ∀ t ∈ l, Gd t ∧ t.text.length ≤ 400) (hl : l.length ≤ 400) (htab : Tab w) :
    Calls Tryd.prog 7 #[v, .string (textOf (blkR tab))] w fun e w' => e = .returned (.string (textOf (toldR tab l))) ∧ Below w.heap.size w w' := by
  obtain ⟨a, c, rfl, ha⟩ := toks_form h
  have HH := Lib.hid h; have HG := Lib.hid hg; have HTAB := Lib.hid htab; have HA := Lib.hid ha
  clear h hg htab ha
  obtain ⟨n, hn⟩ : ∃ n, l.length = n := ⟨_, rfl⟩
  have HN := Lib.hid hn
  rw [hn] at hl ⊢
  clear hn
  have hbk := textOf_bound (blkR tab) 2 (by cases tab <;> simp [blkR])
  go_enter Tryd.func7, Tryd.ntmps7
  go_wp2_with fail
  go_loopw [5, 10] (fun u5 u10 wr => ∃ k : Nat, k ≤ n ∧ u10 = .int .i64 k ∧ u5 = .string (textOf (toldR tab (l.take k))) ∧ Below w.heap.size w wr) (fun _ u10 _ => n - (intOf u10).toNat)
  case atStart => exact ⟨0, by omega, rfl, by rw [List.take_zero]; rfl, Below.refl _ _⟩
  case round =>
    obtain ⟨k, hk, rfl, rfl, hb⟩ := hrel
    have HB := Lib.hid hb
    by_cases hlt : k < n
    · obtain ⟨g, rfl⟩ := HA.out (by have := HN.out; omega)
      obtain ⟨t, ht⟩ : ∃ t, l[k]? = some t := ⟨_, List.getElem?_eq_getElem (by have := HN.out; omega)⟩
      have hrg := toks_range (toks_below HH.out hb) rfl ht
      have HRG : Hid (wr.rangeAt g (k * 4) [.int .u8 t.kind, .string (textOf t.text), .int .i64 t.n, .int .i64 t.place]) := hrg
      obtain ⟨hgd, hlen⟩ := HG.out t (List.mem_of_getElem? ht)
      have hz := textOf_bound (toldR tab (l.take k)) 160800 (Nat.le_trans (toldR_len tab _ (fun y hy => HG.out y (List.mem_of_mem_take hy))) (by rw [List.length_take]; have := Nat.min_le_left k l.length; omega))
      have hz2 := textOf_bound (tokR t) 400 (tokR_len hgd hlen)
      have HT := Lib.hid (told_next tab ht)
      have hk0 : (0 : Int) ≤ (k : Int) := by omega
      have HBA : Hid (∀ o, Below wr.heap.size wr (wr.alloc o)) := Lib.hid fun o => (Below.refl _ wr).alloc (Nat.le_refl _) o
      have hk1 : (k : Int) + 1 ≤ 9223372036854775807 := by omega
      by_cases hk2 : t.kind = 2
      · have hq : ((t.kind : Int) == 2) = true := by simp [hk2]
        have hn63 : t.n ≤ 9223372036854775807 := by
          rcases hgd with ⟨h1, _⟩ | ⟨_, _, h3⟩ | ⟨h1, _⟩
          · omega
          · exact h3
          · omega
        have HN63 := Lib.hid hn63
        have htr : tokR t = digR t.n := by unfold tokR; rw [if_pos hk2]
        rw [htr] at hz2 HT
        clear hn63 htr hrg ht hgd hlen hb hk2
        go_wp2_with (refine wpList_load_mid rfl 29 (.tmp 12) rfl g (k * 4) rfl [.int .u8 t.kind, .string (textOf t.text), .int .i64 t.n, .int .i64 t.place] _ HRG.out Tryd.underlying29 rfl infoTok4 ?_)
        refine (fmt_any ((HTAB.out.on HB.out).on (HBA.out _)) t.n HN63.out).mono ?_
        rintro e w1 ⟨rfl, hb1⟩
        have HB1 := Lib.hid (HB.out.trans (((HBA.out _).trans (hb1.mono (HBA.out _).size)).mono HB.out.size)); clear hb1
        go_wp2_with fail
        go_roundw
        case rel => exact ⟨k + 1, by omega, by go_num, by rw [← HT.out], HB1.out⟩
        case measure => simp [intOf]; omega
      · have hq : ((t.kind : Int) == 2) = false := by simp; omega
        have htr : tokR t = t.text := by unfold tokR; rw [if_neg hk2]
        rw [htr] at hz2 HT
        clear htr hrg ht hgd hlen hb hk2
        go_wp2_with (refine wpList_load_mid rfl 29 (.tmp 12) rfl g (k * 4) rfl [.int .u8 t.kind, .string (textOf t.text), .int .i64 t.n, .int .i64 t.place] _ HRG.out Tryd.underlying29 rfl infoTok4 ?_)
        go_roundw
        case rel => exact ⟨k + 1, by omega, by go_num, by rw [← HT.out], HB.out.trans ((HBA.out _).mono HB.out.size)⟩
        case measure => simp [intOf]; omega
    · obtain rfl : k = n := by omega
      have HL : Hid (l.take k = l) := Lib.hid (List.take_of_length_le (by have := HN.out; omega))
      clear hb
      go_wp2_with fail
      go_ret
      exact ⟨by rw [HL.out]; rfl, HB.out⟩
end Go.Proofs.YtejcgkchlehoiaaDoor.lex
